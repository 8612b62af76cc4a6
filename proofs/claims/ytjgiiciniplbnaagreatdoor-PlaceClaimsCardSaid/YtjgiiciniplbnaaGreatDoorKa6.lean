/-
  The score of a peer, its rank, and which of two peers is better. · The shelf's contracts of this program's sorts, laid in plain words. · A set of peers, and its members in the order of their ranks: lists, and how they lie in memory. · ranked: the members of a set, the best first. · The given arguments as lists: bytes, numbers, pieces. · Sets of peers out of lists; Ranking, Chosen, Contains. · Ranking, Chosen, slices.Contains. · slices.Contains of numbers; Duty, Covered. · Covered: enough better peers are in a list. · Maps of claims: keys that are digests, elements that are maps. · Note: the first claim.
-/
import Derived.Test.YtjgiiciniplbnaaGreatDoorKa4
import Derived.Test.YtjgiiciniplbnaaGreatDoorKa3
import Derived.Test.YtjgiiciniplbnaaGreatDoorKa5
import Derived.ArgAppend
import Derived.Shelf.SlSortCmp.WholeK
import Derived.Shelf.SlSortCmp.NoneTotal
import Derived.Test.YtjgiiciniplbnaaGreatDoorProg
import Derived.Deep.AppendLies
import Derived.Test.YtjgiiciniplbnaaGreatDoorKa2
import Derived.WalkKit
import Derived.ProofKit
import Derived.OpenShut
import Derived.Deep.SlicePairs
import Derived.Lib.MinMax
import Derived.Deep.RegionHeld3
import Derived.Deep.DeepCutAuto
import Derived.BigFrame
import Derived.Maps.OwnOps
import Derived.Maps.Views
import Derived.Maps.RangeWalk
import Derived.DeepKeys4
namespace Go.Proofs.YtjgiiciniplbnaaGreatDoor
open Go Go.RowKit Go.Lib Go.Sort
set_option linter.unusedVariables false

/-- the number of a peer as a byte -/
def pb8 (p : Int) : Nat := (p % 256).toNat
theorem pb8_lt (p : Int) : pb8 p < 256 := by unfold pb8; omega
theorem pb8_wrap (p : Int) : IntKind.u8.wrap p = ((pb8 p : Nat) : Int) := by
  rw [IntKind.wrap_u8]
  unfold pb8
  omega
/-- the score of a peer -/
def scL (obj : List Nat) (p : Int) : List Nat := dig shaRound shaStart (obj ++ [pb8 p])
theorem scL_length (obj : List Nat) (p : Int) : (scL obj p).length = 32 := dig_length _ _ _
theorem scL_lt (obj : List Nat) (p : Int) : ∀ x ∈ scL obj p, x < 256 := digL_lt ()

set_option maxRecDepth 100000 in
set_option maxHeartbeats 4000000 in
theorem Score_any (obj : List Nat) (ho : obj.length = 32) (hlt : ∀ x ∈ obj, x < 256) (p : Int) (w : World) (V : Vars w shaRound shaStart) :
    Calls Tryz.prog 15 #[.agg (u8s obj).toArray, .int .i64 p] w fun e w' => e = .returned (.agg (u8s (scL obj p)).toArray) ∧ Below w.heap.size w w' := by
  have HO := hid ho
  have HLT := hid hlt
  obtain ⟨b, hb⟩ : ∃ y, y = w.heap.size := ⟨_, rfl⟩
  obtain ⟨w1, hw1⟩ : ∃ y, y = (w.alloc (.cells (u8s obj).toArray 23)).alloc (.cells (u8s (List.replicate 32 0)).toArray 23) := ⟨_, rfl⟩
  have hb1 : Below w.heap.size w w1 := by rw [hw1]; exact ((Below.refl _ _).alloc (Nat.le_refl _) _).alloc (by simp) _
  have hs1 : w1.heap.size = b + 2 := by rw [hw1, hb]; simp
  have HR0 := hid (show OwnD w1 b obj from by rw [hw1, hb]; exact heap_alloc (heap_new _ _) _)
  have HR1 := hid (show OwnD w1 (b + 1) (List.replicate 32 0) from by
    have h := heap_new (w.alloc (.cells (u8s obj).toArray 23)) (.cells (u8s (List.replicate 32 0)).toArray 23)
    have e : (w.alloc (.cells (u8s obj).toArray 23)).heap.size = w.heap.size + 1 := by simp
    rw [e] at h
    rw [hw1, hb]
    exact h)
  have HV1 := hid (V.below hb1)
  have HB1 := hid hb1
  have hwr := pb8_wrap p
  have hp8 := pb8_lt p
  have HSC := hid (show scL obj p = dig shaRound shaStart (obj ++ [pb8 p]) from rfl)
  have hsl := scL_length obj p
  obtain ⟨SC, hSC⟩ : ∃ y, y = scL obj p := ⟨_, rfl⟩
  rw [← hSC] at HSC hsl ⊢
  generalize pb8 p = q at *
  obtain ⟨w2, hw2⟩ : ∃ y, y = w1.alloc (.cells #[.int .u8 ((q : Nat) : Int)] 5) := ⟨_, rfl⟩
  have hb2 : Below w1.heap.size w1 w2 := by rw [hw2]; exact (Below.refl _ _).alloc (Nat.le_refl _) _
  have c2 : w2.cell? ⟨b + 2, 0, none⟩ = some (.int .u8 ((q : Nat) : Int)) := by
    rw [hw2, ← hs1, cell_of_heap (heap_new _ _)]
    rfl
  have HC2 := hid c2
  have HR02 := hid ((hb2.block b (by omega)).trans HR0.out)
  have HR12 := hid ((hb2.block (b + 1) (by omega)).trans HR1.out)
  have HB2 := hid (hb1.trans (hb2.mono hb1.size))
  have HV2 := hid (HV1.out.below hb2)
  have hs2 : w2.heap.size = b + 3 := by rw [hw2]; simp [hs1]
  have HS2 := hid hs2
  have HW1 := hid hw1
  have HW2 := hid hw2
  have HBB := hid hb
  obtain ⟨i0, hi0, hz0, hz1, hz2⟩ := info_parts info5
  have hou : (u8s obj).length = 32 * 1 := by simp [u8s, ho]
  have HOU := hid hou
  have HS1 := hid hs1
  have holds : ∀ j u, (u8s obj)[j]? = some u → w2.cell? ((⟨b, 0, none⟩ : Addr).add j) = some u := fun j u hj => by
    have e : (⟨b, 0, none⟩ : Addr).add j = ⟨b, j, none⟩ := by unfold Addr.add; split <;> simp_all
    rw [e, cell_of_heap HR02.out, List.getElem?_toArray]
    exact hj
  have HOLDS := hid holds
  have hone : ∀ j u, ([.int .u8 ((q : Nat) : Int)] : List Value)[j]? = some u → w2.cell? ((⟨b + 2, 0, none⟩ : Addr).add j) = some u := fun j u hj => by
    rcases j with _ | j
    · simp at hj; rw [← hj]; exact HC2.out
    · simp at hj
  have HNE := hid hone
  clear V hb1 hb2 c2 hs1 hs2 hw1 hw2 hb ho hlt hSC holds hone hou
  go_enter Tryz.func15, Tryz.ntmps15
  go_upto_region 1 with fail
  change Code.wp _ _ _ _ ((w.alloc (.cells (u8s obj).toArray 23)).alloc (.cells (u8s (List.replicate 32 0)).toArray 23))
  rw [← HW1.out, ← HBB.out]
  have hbw : w1.heap.size = b + 2 := HS1.out
  go_wp2_with (refine wpList_append_grows _ rfl (.tmp 5) (.tmp 8) 66 rfl 5 i0 (.int .u8 0) 1 1 Tryz.underlying66 hi0 hz0 hz1 hz2 rfl (by decide) (some ⟨b, 0, none⟩) 32 32 (u8s obj) rfl (by intro h; cases h) HOU.out (by intro ad h; cases h; rw [← HW2.out]; exact HOLDS.out) ⟨b + 2, 0, none⟩ 1 1 [.int .u8 ((q : Nat) : Int)] rfl rfl (by rw [← HW2.out]; exact HNE.out) (by intro u hu; simp at hu; rw [hu]; rfl) (by omega) (by unfold maxLen; omega) (by omega) ?_
               intro v3 w3 hown3 hg3)
  rw [← HW2.out] at hown3 hg3
  have hown3' : w3.ownsRow w2.heap.size 5 1 v3 33 (u8s (obj ++ [q])) := by
    have e : u8s (obj ++ [q]) = u8s obj ++ [.int .u8 ((q : Nat) : Int)] := by simp [u8s]
    rw [e]
    exact hown3
  have hlt3 : ∀ x ∈ obj ++ [q], x < 256 := fun x hx => by
    rcases List.mem_append.1 hx with h | h
    · exact HLT.out x h
    · simp at h; rw [h]; exact hp8
  obtain ⟨a3, c3, e3, -, hc3, hbs3, -⟩ := bs_of_owns hown3' hlt3
  subst e3
  have hb3 : Below w2.heap.size w2 w3 := (Below.refl _ _).grown hg3 (Nat.le_refl _) (fun k hk => by cases hk)
  have HB3 := hid (HB2.out.trans (hb3.mono HB2.out.size))
  have HR3 := hid ((hb3.block (b + 1) (by rw [HS2.out]; omega)).trans HR12.out)
  have hsha := SHA256_any a3 33 c3 shaRound shaStart (obj ++ [q]) w3 (HV2.out.below hb3) hbs3 hc3 (by decide)
  rw [← HSC.out] at hsha
  have HSHA := hid hsha
  have hl32' : (u8s SC).length = 32 := by simp [u8s, hsl]
  have HIF2 := hid (show (Tryz.prog.info? 23).map (·.size) = some (u8s SC).toArray.size from by rw [List.size_toArray, hl32']; kernel_rfl)
  have HOLD := hid (show (u8s (List.replicate 32 0)).toArray.size = (u8s SC).toArray.size from by rw [List.size_toArray, List.size_toArray, hl32']; rfl)
  have HONE := hid (show (u8s SC).toArray.all (·.oneCell') = true from all_oneCell_toArray (u8s_oneH _))
  clear hown3 hown3' hg3 hlt3 hb3 hsha hbs3 hl32' HSC hwr hp8 hz0 hz1 hz2 hi0
  refine HSHA.out.mono ?_
  rintro e w4 ⟨rfl, hb4⟩
  have HR4 := hid ((hb4.block (b + 1) (lt_of_heap HR3.out)).trans HR3.out)
  have hbe := HB3.out.trans (hb4.mono HB3.out.size)
  have HBE := hid hbe
  clear hb4 hbe hbw
  go_wp2_with (refine wpList_store_row (by rfl) 23 (.tmp 4) (.tmp 10) (by rfl) (b + 1) _ (u8s SC).toArray _ (by rfl) (by rfl) HR4.out HIF2.out HOLD.out HONE.out ?_
               intro w8 hw8 hk8)
  have hres : (loadVar 23 ⟨b + 1, 0, none⟩).run Tryz.prog w8 = .ok (.agg (u8s SC).toArray) w8 := run_loadVar_row _ _ 23 23 _ (0, 0) _ hw8 Tryz.underlying23 rfl HIF2.out
  refine bodyPost_ret (v := .agg (u8s SC).toArray) (results_at Tryz.results15 rfl hres) rfl ⟨rfl, ?_⟩
  exact HBE.out.trans (hk8.below HBE.out.size (by have := HBB.out; omega))
theorem built_rk (s : List Nat) (a : Int) (h : s.length = 32) : Tryz.prog.built 123 [(0, .agg (u8s s).toArray), (1, .int .i64 a)] = some (rk s a).toArray := by
  obtain ⟨x0, x1, x2, x3, x4, x5, x6, x7, x8, x9, x10, x11, x12, x13, x14, x15, x16, x17, x18, x19, x20, x21, x22, x23, x24, x25, x26, x27, x28, x29, x30, x31, rfl⟩ := list32 s h
  kernel_rfl
theorem map_two (x0 x1 : Operand) (f : Operand → Value) : ((#[(0, x0), (1, x1)] : Array (Nat × Operand)).map fun (i, x) => (i, f x)).toList = [(0, f x0), (1, f x1)] := by simp
/-- the making of a struct of two parts, for the walk -/
theorem wpList_build2 {P : Program} {ops : Array Oper} {rest : List Oper} {o : Oper} {a : Act} {w : World} {Q : Exit → Act → World → Prop} (hgd : o.guard = none) (t : TypeId) (x0 x1 : Operand) (ho : o.op = .build t #[(0, x0), (1, x1)]) {v0 v1 : Value} (h0 : a.eval x0 = v0) (h1 : a.eval x1 = v1)
    {cells : Array Value} (hp : P.built t [(0, v0), (1, v1)] = some cells) (h : wpList P ops Q rest (a.put o.dst (.agg cells)) w) : wpList P ops Q (o :: rest) a w :=
  wpList_plain hgd fun K hK => by
    have hv := map_two x0 x1 a.eval
    rw [h0, h1] at hv
    rw [← hv] at hp
    have hr : (execOp a.eval o).run P w = .ok (.value (.agg cells)) w := by
      unfold execOp
      simp only [ho]
      have h := run_build (P := P) w t _ cells hp
      simp only [Sem.run_bind, h, Result.andThen_ok, Sem.run_pure]
    unfold Oper.wp
    rw [hr]
    exact hK _ _ h
theorem rk_one (s : List Nat) (a : Int) : ∀ u ∈ rk s a, u.oneCell' = true := fun u hu => by
  unfold rk at hu
  rcases List.mem_append.1 hu with h | h
  · exact u8s_oneH _ u h
  · simp at h; rw [h]; rfl
theorem range_own {w : World} {b : Nat} {cs : List Value} {T : TypeId} (h : w.heap[b]? = some (.cells cs.toArray T (0, 0))) : w.rangeAt b 0 cs := range_of_heap h
set_option maxRecDepth 100000 in
set_option maxHeartbeats 4000000 in
theorem rankOf_any (obj : List Nat) (ho : obj.length = 32) (hlt : ∀ x ∈ obj, x < 256) (p : Int) (w : World) (V : Vars w shaRound shaStart) :
    Calls Tryz.prog 64 #[.agg (u8s obj).toArray, .int .i64 p] w fun e w' => e = .returned (.agg (rk (scL obj p) p).toArray) ∧ Below w.heap.size w w' := by
  obtain ⟨b, hb⟩ : ∃ y, y = w.heap.size := ⟨_, rfl⟩
  obtain ⟨w1, hw1⟩ : ∃ y, y = (w.alloc (.cells (u8s obj).toArray 23)).alloc (.cells (rk (List.replicate 32 0) 0).toArray 123) := ⟨_, rfl⟩
  have hb1 : Below w.heap.size w w1 := by rw [hw1]; exact ((Below.refl _ _).alloc (Nat.le_refl _) _).alloc (by simp) _
  have HR0 := hid (show OwnD w1 b obj from by rw [hw1, hb]; exact heap_alloc (heap_new _ _) _)
  have HR1 := hid (show w1.heap[b + 1]? = some (.cells (rk (List.replicate 32 0) 0).toArray 123 (0, 0)) from by
    have h := heap_new (w.alloc (.cells (u8s obj).toArray 23)) (.cells (rk (List.replicate 32 0) 0).toArray 123)
    have e : (w.alloc (.cells (u8s obj).toArray 23)).heap.size = w.heap.size + 1 := by simp
    rw [e] at h
    rw [hw1, hb]
    exact h)
  have HB1 := hid hb1
  have HSA := hid (Score_any obj ho hlt p w1 (V.below hb1))
  have hsl := scL_length obj p
  generalize scL obj p = SC at *
  have HRG := hid (range_own HR0.out)
  have HIF := hid (show (Tryz.prog.info? 23).map (·.size) = some (u8s obj).length from by rw [show (u8s obj).length = 32 from by simp [u8s, ho]]; kernel_rfl)
  have HBR := hid (built_rk SC p hsl)
  have hrl : (rk SC p).toArray.size = 33 := by rw [List.size_toArray]; exact rk_length SC p hsl
  have HIF2 := hid (show (Tryz.prog.info? 123).map (·.size) = some (rk SC p).toArray.size from by rw [hrl]; kernel_rfl)
  have HOLD := hid (show (rk (List.replicate 32 0) 0).toArray.size = (rk SC p).toArray.size from by rw [hrl]; rfl)
  have HONE := hid (show (rk SC p).toArray.all (·.oneCell') = true from all_oneCell_toArray (rk_one SC p))
  have HW1 := hid hw1
  have HBB := hid hb
  generalize rk SC p = RK at *
  clear V hb1 hw1 hb hsl hrl
  go_enter Tryz.func64, Tryz.ntmps64
  go_upto_region 1 with fail
  change Code.wp _ _ _ _ ((w.alloc (.cells (u8s obj).toArray 23)).alloc (.cells (rk (List.replicate 32 0) 0).toArray 123))
  rw [← HW1.out, ← HBB.out]
  go_wp2_with (refine wpList_load_mid (by rfl) 23 (.tmp 2) (by rfl) b 0 (by rfl) (u8s obj) _ HRG.out Tryz.underlying23 rfl HIF.out ?_)
  refine HSA.out.mono ?_
  rintro e w4 ⟨rfl, hb4⟩
  have HR4 := hid ((hb4.block (b + 1) (lt_of_heap HR1.out)).trans HR1.out)
  have HBE := hid (HB1.out.trans (hb4.mono HB1.out.size))
  clear hb4
  go_wp2_with (first
    | (refine wpList_build2 (by rfl) 123 (.tmp 7) (.tmp 8) (by rfl) (by rfl) (by rfl) HBR.out ?_)
    | (refine wpList_store_row (by rfl) 123 (.tmp 4) (.tmp 9) (by rfl) (b + 1) _ RK.toArray _ (by rfl) (by rfl) HR4.out HIF2.out HOLD.out HONE.out ?_
       intro w8 hw8 hk8))
  have hres : (loadVar 123 ⟨b + 1, 0, none⟩).run Tryz.prog w8 = .ok (.agg RK.toArray) w8 := run_loadVar_row _ _ 123 123 _ (0, 0) _ hw8 Tryz.underlying123 rfl HIF2.out
  refine bodyPost_ret (v := .agg RK.toArray) (results_at Tryz.results64 rfl hres) rfl ⟨rfl, ?_⟩
  exact HBE.out.trans (hk8.below HBE.out.size (by have := HBB.out; omega))

/-- how two peers compare -/
def cmpP (obj : List Nat) (a b : Int) : Int := cmpRk (scL obj a) (scL obj b) a b
set_option maxRecDepth 100000 in
set_option maxHeartbeats 4000000 in
theorem Better_any (obj : List Nat) (ho : obj.length = 32) (hlt : ∀ x ∈ obj, x < 256) (a b : Int) (w : World) (V : Vars w shaRound shaStart) :
    Calls Tryz.prog 17 #[.agg (u8s obj).toArray, .int .i64 a, .int .i64 b] w fun e w' => e = .returned (.bool (decide (cmpP obj a b < 0))) ∧ Below w.heap.size w w' := by
  obtain ⟨w1, hw1⟩ : ∃ y, y = w.alloc (.cells (u8s obj).toArray 23) := ⟨_, rfl⟩
  have hb1 : Below w.heap.size w w1 := by rw [hw1]; exact (Below.refl _ _).alloc (Nat.le_refl _) _
  have HR0 := hid (show OwnD w1 w.heap.size obj from by rw [hw1]; exact heap_new _ _)
  have HV1 := hid (V.below hb1)
  have HB1 := hid hb1
  have HRA := hid (fun (p : Cls fun w' => Below w1.heap.size w1 w') => rankOf_any obj ho hlt a p.w (HV1.out.below p.h))
  have HRB := hid (fun (p : Cls fun w' => Below w1.heap.size w1 w') => rankOf_any obj ho hlt b p.w (HV1.out.below p.h))
  have hcm := fun wx => cranks_any (scL obj a) (scL obj b) a b (scL_length _ _) (scL_length _ _) wx
  have e0 : cmpRk (scL obj a) (scL obj b) a b = cmpP obj a b := rfl
  rw [e0] at hcm
  have HCM := hid (fun (p : Cls fun w' => Below w1.heap.size w1 w') => (hcm p.w).mono fun e w' h => (⟨h.1, h.2.below⟩ : e = .returned (.int .i64 (cmpP obj a b)) ∧ Below p.w.heap.size p.w w'))
  have HRG := hid (fun (p : Cls fun w' => Below w1.heap.size w1 w') => range_own ((p.h.block _ (lt_of_heap HR0.out)).trans HR0.out))
  have HIF := hid (show (Tryz.prog.info? 23).map (·.size) = some (u8s obj).length from by rw [show (u8s obj).length = 32 from by simp [u8s, ho]]; kernel_rfl)
  generalize rk (scL obj a) a = RA at *
  generalize rk (scL obj b) b = RB at *
  generalize cmpP obj a b = C at *
  have hne : Nonempty (Cls fun w' => Below w1.heap.size w1 w') := ⟨⟨w1, Below.refl _ _⟩⟩
  have HW1 := hid hw1
  clear V hb1 hw1 hcm e0
  go_enter Tryz.func17, Tryz.ntmps17
  go_upto_region 1 with fail
  rw [← HW1.out]
  refine wp_region_class_lit (G := fun w' => Below w1.heap.size w1 w') (by kernel_rfl) (by kernel_rfl) (bel_drewN (Below.refl _ _) 1) ?_
  refine wpQuiet_load_cls (by rfl) 23 (.tmp 3) (by rfl) w.heap.size 0 (by rfl) (u8s obj) _ HRG.out Tryz.underlying23 rfl HIF.out ?_
  rintro _ rfl
  try simp only [Act.put, List.setIfInBounds_toArray, List.set_cons_zero, List.set_cons_succ]
  go_big_quiet_step (fail)
  go_big_quiet_step ((go_at_call 64; exact Calls.cls (HRA.out _)))
  refine wpQuiet_load_cls (by rfl) 23 (.tmp 3) (by rfl) w.heap.size 0 (by rfl) (u8s obj) _ HRG.out Tryz.underlying23 rfl HIF.out ?_
  rintro _ rfl
  try simp only [Act.put, List.setIfInBounds_toArray, List.set_cons_zero, List.set_cons_succ]
  go_big_quiet_step (fail)
  go_big_quiet_step ((go_at_call 64; exact Calls.cls (HRB.out _)))
  go_big_quiet_step ((go_at_call 63; exact Calls.cls (HCM.out _)))
  repeat (go_big_quiet_step (fail))
  refine wpQuiet_nil ?_
  rintro _ ⟨⟨wp, hwp⟩, rfl⟩
  have HBE := hid (HB1.out.trans (hwp.mono HB1.out.size))
  go_wp2_with fail
  go_ret
  exact ⟨rfl, HBE.out⟩
end Go.Proofs.YtjgiiciniplbnaaGreatDoor

namespace Go.Proofs
open Go.Shelf
def Tryz.sortRk_ren : Go.Shelf.Ren := ⟨fun | 6 => 97 | 15 => 131 | 14 => 130 | 28 => 159 | 29 => 160 | 20 => 151 | 21 => 152 | 22 => 153 | 23 => 154 | 24 => 155 | 25 => 156 | 26 => 157 | 27 => 158 | 46 => 179 | 47 => 180 | 48 => 181 | 49 => 182 | 50 => 183 | 57 => 194 | n => n, fun | 22 => 183 | 24 => 123 | 25 => 121 | 3 => 3 | 39 => 201 | 0 => 0 | 53 => 144 | 55 => 43 | 4 => 4 | 46 => 235 | 45 => 234 | 50 => 239 | 5 => 5 | 9 => 9 | 66 => 255 | 70 => 259 | 76 => 267 | 77 => 268 | n => n, fun | n => n⟩
theorem Tryz.sortRk : Go.Proofs.SlLaysF0.n6 Tryz.prog Tryz.sortRk_ren := {
  mixed := by kernel_rfl
  f6 := ⟨Tryz.f97.name, by decide, Tryz.func97.trans (congrArg some (by kernel_rfl))⟩
  f14 := ⟨Tryz.f130.name, by decide, Tryz.func130.trans (congrArg some (by kernel_rfl))⟩
  f15 := Tryz.func131.trans (congrArg some (by kernel_rfl))
  f20 := ⟨Tryz.f151.name, by decide, Tryz.func151.trans (congrArg some (by kernel_rfl))⟩
  f21 := ⟨Tryz.f152.name, by decide, Tryz.func152.trans (congrArg some (by kernel_rfl))⟩
  f22 := ⟨Tryz.f153.name, by decide, Tryz.func153.trans (congrArg some (by kernel_rfl))⟩
  f23 := ⟨Tryz.f154.name, by decide, Tryz.func154.trans (congrArg some (by kernel_rfl))⟩
  f24 := ⟨Tryz.f155.name, by decide, Tryz.func155.trans (congrArg some (by kernel_rfl))⟩
  f25 := ⟨Tryz.f156.name, by decide, Tryz.func156.trans (congrArg some (by kernel_rfl))⟩
  f26 := ⟨Tryz.f157.name, by decide, Tryz.func157.trans (congrArg some (by kernel_rfl))⟩
  f27 := ⟨Tryz.f158.name, by decide, Tryz.func158.trans (congrArg some (by kernel_rfl))⟩
  f28 := Tryz.func159.trans (congrArg some (by kernel_rfl))
  f29 := Tryz.func160.trans (congrArg some (by kernel_rfl))
  f46 := ⟨Tryz.f179.name, by decide, Tryz.func179.trans (congrArg some (by kernel_rfl))⟩
  f47 := Tryz.func180.trans (congrArg some (by kernel_rfl))
  f48 := Tryz.func181.trans (congrArg some (by kernel_rfl))
  f49 := ⟨Tryz.f182.name, by decide, Tryz.func182.trans (congrArg some (by kernel_rfl))⟩
  f50 := ⟨Tryz.f183.name, by decide, Tryz.func183.trans (congrArg some (by kernel_rfl))⟩
  f57 := ⟨Tryz.f194.name, by decide, Tryz.func194.trans (congrArg some (by kernel_rfl))⟩
  t0 := Tryz.underlying0
  a0 := Tryz.isAgg0
  z0 := Tryz.sizeOf0
  v0 := Tryz.zeroValue0
  t3 := Tryz.underlying3
  a3 := Tryz.isAgg3
  z3 := Tryz.sizeOf3
  v3 := Tryz.zeroValue3
  t4 := Tryz.underlying4
  a4 := Tryz.isAgg4
  z4 := Tryz.sizeOf4
  v4 := Tryz.zeroValue4
  t5 := Tryz.underlying5
  a5 := Tryz.isAgg5
  z5 := Tryz.sizeOf5
  v5 := Tryz.zeroValue5
  t9 := Tryz.underlying9
  a9 := Tryz.isAgg9
  z9 := Tryz.sizeOf9
  v9 := Tryz.zeroValue9
  t22 := Tryz.underlying183
  a22 := Tryz.isAgg183
  z22 := Tryz.sizeOf183
  v22 := Tryz.zeroValue183
  t25 := Tryz.underlying121
  a25 := Tryz.isAgg121
  z25 := Tryz.sizeOf121
  v25 := Tryz.zeroValue121
  t39 := Tryz.underlying201
  a39 := Tryz.isAgg201
  z39 := Tryz.sizeOf201
  v39 := Tryz.zeroValue201
  t45 := Tryz.underlying234
  a45 := Tryz.isAgg234
  z45 := Tryz.sizeOf234
  v45 := Tryz.zeroValue234
  t46 := Tryz.underlying235
  a46 := Tryz.isAgg235
  z46 := Tryz.sizeOf235
  v46 := Tryz.zeroValue235
  t50 := Tryz.underlying239
  a50 := Tryz.isAgg239
  z50 := Tryz.sizeOf239
  v50 := Tryz.zeroValue239
  t53 := Tryz.underlying144
  a53 := Tryz.isAgg144
  z53 := Tryz.sizeOf144
  v53 := Tryz.zeroValue144
  t55 := Tryz.underlying43
  a55 := Tryz.isAgg43
  z55 := Tryz.sizeOf43
  v55 := Tryz.zeroValue43
  t66 := Tryz.underlying255
  a66 := Tryz.isAgg255
  z66 := Tryz.sizeOf255
  v66 := Tryz.zeroValue255
  t70 := Tryz.underlying259
  a70 := Tryz.isAgg259
  z70 := Tryz.sizeOf259
  v70 := Tryz.zeroValue259
  t76 := Tryz.underlying267
  a76 := Tryz.isAgg267
  z76 := Tryz.sizeOf267
  v76 := Tryz.zeroValue267
  t77 := Tryz.underlying268
  a77 := Tryz.isAgg268
  z77 := Tryz.sizeOf268
  v77 := Tryz.zeroValue268 }
end Go.Proofs

namespace Go.Proofs.YtjgiiciniplbnaaGreatDoor
open Go Go.RowKit Go.Lib Go.Sort
set_option linter.unusedVariables false

/-- a set as an array of bools -/
def bools (S : Nat → Bool) : List Value := (List.range 16).map fun i => .bool (S i)
theorem bools_length (S : Nat → Bool) : (bools S).length = 16 := by simp [bools]
theorem bools_get (S : Nat → Bool) (i : Nat) (h : i < 16) : (bools S)[i]? = some (.bool (S i)) := by simp [bools, h]
theorem bools_one (S : Nat → Bool) : ∀ u ∈ bools S, u.oneCell' = true := fun u hu => by
  unfold bools at hu
  obtain ⟨i, _, rfl⟩ := List.mem_map.1 hu
  rfl
/-- the members below k -/
def memb (S : Nat → Bool) (k : Nat) : List Nat := (List.range k).filter S
theorem memb_succ (S : Nat → Bool) (k : Nat) : memb S (k + 1) = if S k then memb S k ++ [k] else memb S k := by
  unfold memb
  rw [List.range_succ, List.filter_append]
  cases h : S k <;> simp [h]
theorem memb_le (S : Nat → Bool) (k : Nat) : (memb S k).length ≤ k := by
  have := List.length_filter_le S (List.range k)
  simpa [memb] using this
theorem memb_lt (S : Nat → Bool) (k : Nat) : ∀ x ∈ memb S k, x < k := fun x hx => List.mem_range.1 (List.mem_filter.1 hx).1
/-- a peer's rank as cells -/
def encN (obj : List Nat) (p : Nat) : List Value := rk (scL obj (p : Int)) (p : Int)
theorem encN_length (obj : List Nat) (p : Nat) : (encN obj p).length = 33 := rk_length _ _ (scL_length _ _)
theorem encN_one (obj : List Nat) (p : Nat) : ∀ u ∈ encN obj p, u.oneCell' = true := rk_one _ _
def flatR (obj : List Nat) (l : List Nat) : List Value := l.flatMap (encN obj)
theorem flatR_length (obj l : List Nat) : (flatR obj l).length = l.length * 33 := by
  induction l with
  | nil => rfl
  | cons x l ih =>
    show (encN obj x ++ flatR obj l).length = _
    rw [List.length_append, encN_length, ih, List.length_cons]
    omega
theorem flatR_snoc (obj l : List Nat) (x : Nat) : flatR obj (l ++ [x]) = flatR obj l ++ encN obj x := by simp [flatR]
theorem flatR_get (obj : List Nat) : ∀ (l : List Nat) (i c : Nat), i < l.length → c < 33 → (flatR obj l)[i * 33 + c]? = (encN obj (l.getD i 0))[c]?
  | [], i, c, h, _ => by simp at h
  | x :: l, 0, c, _, hc => by
    show (encN obj x ++ flatR obj l)[0 * 33 + c]? = _
    rw [List.getElem?_append_left (by rw [encN_length]; omega), Nat.zero_mul, Nat.zero_add]
    rfl
  | x :: l, i + 1, c, h, hc => by
    have h2 : i < l.length := by simpa using h
    show (encN obj x ++ flatR obj l)[(i + 1) * 33 + c]? = _
    rw [List.getElem?_append_right (by rw [encN_length]; omega), encN_length, show (i + 1) * 33 + c - 33 = i * 33 + c from by omega, flatR_get obj l i c h2 hc]
    rfl
/-- the order of the ranks -/
def cfN (obj : List Nat) (x y : Nat) : Int := cmpP obj (x : Int) (y : Int)
theorem cfN_def (obj : List Nat) (x y : Nat) : cfN obj x y = cmpRk (scL obj x) (scL obj y) x y := rfl
theorem cfN_neg (obj : List Nat) (x y : Nat) : cfN obj y x = - cfN obj x y := cmpRk_neg _ _ _ _
theorem cfN_self (obj : List Nat) (x : Nat) : cfN obj x x = 0 := cmpRk_self _ _
theorem cfN_zero (obj : List Nat) (x y : Nat) (h : cfN obj x y = 0) : x = y := by have := (cmpRk_zero _ _ _ _ h).1; omega
theorem cfN_trans (obj : List Nat) (x y z : Nat) (h : cfN obj x y < 0) (k : cfN obj y z < 0) : cfN obj x z < 0 := cmpRk_trans _ _ _ _ _ _ h k
theorem cfN_swo (obj : List Nat) : SWO (ltOf (cfN obj)) where
  irrefl x := by unfold ltOf; rw [cfN_self]; rfl
  trans x y z h1 h2 := by
    unfold ltOf at *
    simp only [decide_eq_true_eq] at *
    exact cfN_trans obj x y z h1 h2
  ntrans x y z h1 h2 := by
    unfold ltOf at *
    simp only [decide_eq_false_iff_not] at *
    intro h3
    have a1 := cfN_neg obj x y
    have a2 := cfN_neg obj y z
    by_cases e : cfN obj y x < 0
    · exact h2 (cfN_trans obj y x z e h3)
    · have := cfN_zero obj x y (by omega)
      subst this
      exact h2 h3
theorem cfN_total (obj : List Nat) (x y : Nat) (h1 : ltOf (cfN obj) x y = false) (h2 : ltOf (cfN obj) y x = false) : x = y := by
  unfold ltOf at *
  simp only [decide_eq_false_iff_not] at *
  have := cfN_neg obj x y
  exact cfN_zero obj x y (by omega)
/-- the members of a set, the best first -/
def rkd (obj : List Nat) (S : Nat → Bool) : List Nat := (memb S 16).mergeSort fun x y => !ltOf (cfN obj) y x
theorem rkd_perm (obj : List Nat) (S : Nat → Bool) : (rkd obj S).Perm (memb S 16) := List.mergeSort_perm _ _
theorem rkd_length (obj : List Nat) (S : Nat → Bool) : (rkd obj S).length = (memb S 16).length := (rkd_perm obj S).length_eq
theorem rkd_mem (obj : List Nat) (S : Nat → Bool) (x : Nat) : x ∈ rkd obj S ↔ x < 16 ∧ S x = true := by
  rw [(rkd_perm obj S).mem_iff]
  unfold memb
  rw [List.mem_filter, List.mem_range]
theorem rkd_nodup (obj : List Nat) (S : Nat → Bool) : (rkd obj S).Nodup := (rkd_perm obj S).nodup_iff.2 (List.Pairwise.filter _ List.nodup_range)
theorem rkd_sorted (obj : List Nat) (S : Nat → Bool) : (rkd obj S).Pairwise fun x y => cfN obj x y < 0 := by
  have h := List.pairwise_mergeSort (le := fun x y => !ltOf (cfN obj) y x) (fun a b c h1 h2 => by
    simp only [Bool.not_eq_true'] at *
    exact (cfN_swo obj).ntrans c b a h2 h1) (fun a b => by
    unfold ltOf
    simp only [Bool.or_eq_true, Bool.not_eq_true', decide_eq_false_iff_not]
    have := cfN_neg obj a b
    omega) (memb S 16)
  have h2 := rkd_nodup obj S
  refine (h.and h2).imp fun {x y} ⟨h3, h4⟩ => ?_
  unfold ltOf at h3
  simp only [Bool.not_eq_true', decide_eq_false_iff_not] at h3
  have a1 := cfN_neg obj x y
  rcases Int.lt_trichotomy (cfN obj x y) 0 with h | h | h
  · exact h
  · exact absurd (cfN_zero obj x y h) h4
  · omega
/-- numbers as cells -/
def i64s (l : List Nat) : List Value := l.map fun n => .int .i64 ((n : Nat) : Int)
theorem i64s_length (l : List Nat) : (i64s l).length = l.length := by simp [i64s]
theorem i64s_get (l : List Nat) (i : Nat) (h : i < l.length) : (i64s l)[i]? = some (.int .i64 ((l.getD i 0 : Nat) : Int)) := by
  simp [i64s, h]
theorem made_i64 (n : Nat) : madeCells #[.int .i64 0] n = (i64s (List.replicate n 0)).toArray := by
  apply Array.ext
  · simp [madeCells, i64s]
  · intro i h1 h2
    simp [madeCells, i64s, Nat.mod_one]
theorem infoI : (Tryz.prog.info? 3).map (fun i => (i.zero, i.size, i.bytes)) = some (some (.int .i64 0), 1, 8) := by kernel_rfl
theorem mk_i64 (n : Nat) (hn : n ≤ 1000000) (w : World) : (Instr.makeSlice 27 (.int .i64 n) (.int .i64 n)).run Tryz.prog w = .ok (.slice (some ⟨w.heap.size, 0, none⟩) n n) (w.alloc (.cells (i64s (List.replicate n 0)).toArray 3)) := by
  obtain ⟨i0, hi, hz0, hz1, hz2⟩ := info_parts infoI
  have h := run_make (P := Tryz.prog) w 27 3 i0 (.int .i64 0) Tryz.underlying27 hi hz0 .i64 .i64 n n (by omega) (by omega) (by rw [hz2]; omega) (by omega)
  rw [h, hz1]
  simp only [Int.toNat_natCast, Nat.mul_one, Value.cells, made_i64]
/-- block b is a row of numbers -/
def OwnI (w : World) (b : Nat) (l : List Nat) : Prop := w.heap[b]? = some (.cells (i64s l).toArray 3 (0, 0))
theorem OwnI.cell {w : World} {b : Nat} {l : List Nat} (h : OwnI w b l) (i : Nat) (hi : i < l.length) : w.cell? ⟨b, i, none⟩ = some (.int .i64 ((l.getD i 0 : Nat) : Int)) := by
  rw [cell_of_heap h, List.getElem?_toArray, i64s_get l i hi]
theorem OwnI.free {w : World} {b : Nat} {l : List Nat} (h : OwnI w b l) (i : Nat) : w.frozen? ⟨b, i, none⟩ = false := free_of_heap h i
theorem OwnI.set {w : World} {b : Nat} {l : List Nat} (h : OwnI w b l) (i n : Nat) : OwnI (w.setCell ⟨b, i, none⟩ (.int .i64 ((n : Nat) : Int))) b (l.set i n) := by
  have := heap_set h i (.int .i64 ((n : Nat) : Int))
  unfold OwnI
  rw [this]
  simp [i64s, List.map_set]
theorem OwnI.below {w w' : World} {b : Nat} {l : List Nat} (h : OwnI w b l) (k : Below w.heap.size w w') : OwnI w' b l := (k.block b (lt_of_heap h)).trans h
theorem infoR : (Tryz.prog.info? 123).map (fun i => (i.zero, i.size, i.bytes)) = some (some (.agg (rk (List.replicate 32 0) 0).toArray), 33, 40) := by kernel_rfl
theorem run_build1R (s : List Nat) (a : Int) (h : s.length = 32) (w : World) : (Instr.buildSlice 183 1 #[(0, .agg (rk s a).toArray)]).run Tryz.prog w = .ok (.slice (some ⟨w.heap.size, 0, none⟩) 1 1) (w.alloc (.cells (rk s a).toArray 123)) := by
  obtain ⟨x0, x1, x2, x3, x4, x5, x6, x7, x8, x9, x10, x11, x12, x13, x14, x15, x16, x17, x18, x19, x20, x21, x22, x23, x24, x25, x26, x27, x28, x29, x30, x31, rfl⟩ := list32 s h
  kernel_rfl
theorem wpList_build1R {ops : Array Oper} {rest : List Oper} {o : Oper} {a : Act} {w : World} {Q : Exit → Act → World → Prop} (hgd : o.guard = none) (x : Operand) (ho : o.op = .buildSlice 183 1 #[(0, x)]) (s : List Nat) (p : Int) (hs : s.length = 32) (hx : a.eval x = .agg (rk s p).toArray)
    (h : wpList Tryz.prog ops Q rest (a.put o.dst (.slice (some ⟨w.heap.size, 0, none⟩) 1 1)) (w.alloc (.cells (rk s p).toArray 123))) : wpList Tryz.prog ops Q (o :: rest) a w :=
  wpList_plain hgd fun K hK => by
    have h1 := run_build1R s p hs w
    have hr : (execOp a.eval o).run Tryz.prog w = .ok (.value (.slice (some ⟨w.heap.size, 0, none⟩) 1 1)) (w.alloc (.cells (rk s p).toArray 123)) := by
      unfold execOp
      simp only [ho]
      simp [hx, h1]
    unfold Oper.wp
    rw [hr]
    exact hK _ _ h
/-- the row as the sort's contract wants it -/
theorem holdsR {w : World} {B g cap n : Nat} {obj l : List Nat} (h : w.ownsRow B 123 33 (.slice (some ⟨g, 0, none⟩) n cap) n (flatR obj l)) (hn : l.length = n) (h0 : 0 < n) : HoldsK (encN obj) 33 w g 0 l.toArray := fun j hj => by
  rw [size_flatK, List.size_toArray] at hj
  have hg : g < w.heap.size := (h.lt g rfl).2
  have hd : j / 33 < l.length := by omega
  have hc : j % 33 < 33 := Nat.mod_lt _ (by omega)
  have e : j / 33 * 33 + j % 33 = j := by omega
  have h1 := flatR_get obj l (j / 33) (j % 33) hd hc
  rw [e] at h1
  have e2 : (flatK (encN obj) 33 l.toArray)[j]! = (encN obj (l.getD (j / 33) 0))[j % 33]! := by
    rw [get_flatK _ _ _ _ (by rw [List.size_toArray]; omega)]
    congr 2
    simp [List.getD_eq_getElem?_getD, hd]
  have hlen := encN_length obj (l.getD (j / 33) 0)
  have h2 : (flatR obj l)[j]? = some (encN obj (l.getD (j / 33) 0))[j % 33]! := by
    rw [h1, List.getElem?_eq_getElem (by omega)]
    congr 1
    exact (getElem!_pos _ _ (by omega)).symm
  refine ⟨?_, ?_⟩
  · have h3 := h.cells (g := g) rfl j _ h2
    have e3 : (⟨g, 0, none⟩ : Addr).add j = ⟨g, 0 + j, none⟩ := by unfold Addr.add; split <;> simp_all
    rw [e3] at h3
    rw [e2]
    exact h3
  · rcases h.2 with ⟨hv, h00⟩ | ⟨g', cap', cur, hv, _, hh, _⟩
    · omega
    · simp only [Value.slice.injEq, Option.some.injEq, Addr.mk.injEq] at hv
      obtain ⟨⟨rfl, _⟩, _⟩ := hv
      exact free_of_heap hh _
/-- a sort leaves all blocks but its row's -/
theorem sortW_kept (obj : List Nat) (w : World) (g n : Nat) (d : Array Nat) (os : Array Obj) : Kept g w (sortWorldK (encN obj) 33 w g 0 n d os) := by
  have hs : (putRowK (encN obj) 33 (Sort.ahead w n) g 0 d).heap.size = w.heap.size := by
    unfold putRowK
    rw [size_putRow, heap_ahead]
  refine ⟨rfl, rfl, rfl, ?_, fun k hk hne => ?_⟩
  · unfold sortWorldK
    rw [size_grow, hs]
    omega
  · unfold sortWorldK
    rw [heap_grow_old _ _ (by rw [hs]; exact hk)]
    unfold putRowK putRow mapBlock
    show ((Sort.ahead w n).heap.modify g _)[k]? = _
    rw [heap_ahead, Array.getElem?_modify, if_neg (fun e => hne e.symm)]
/-- the cells of a rank behind the sort -/
theorem sortW_range {w : World} {obj : List Nat} {g n : Nat} {d d0 : Array Nat} {os : Array Obj} (h0 : HoldsK (encN obj) 33 w g 0 d0) (hg : g < w.heap.size) (hs : d.size = d0.size) (i : Nat) (hi : i < d.size) : (sortWorldK (encN obj) 33 w g 0 n d os).rangeAt g (i * 33) (encN obj d[i]!) := fun j v hj => by
  have hl := encN_length obj d[i]!
  have hj2 : j < 33 := by have := (List.getElem?_eq_some_iff.1 hj).1; omega
  have hH : HoldsK (encN obj) 33 (sortWorldK (encN obj) 33 w g 0 n d os) g 0 d := by
    unfold sortWorldK
    refine holdsK_grow (encN obj) 33 _ os g 0 d (by unfold putRowK; rw [size_putRow, heap_ahead]; exact hg) ?_
    exact holdsK_putRowK (encN obj) 33 (Sort.ahead w n) g 0 d0 d (holdsK_ahead (encN obj) 33 w n g 0 d0 h0) hs
  have h1 := (HoldsK.cell hH hi hj2).1
  rw [Nat.zero_add] at h1
  rw [h1]
  have e : (encN obj d[i]!)[j]! = v := by
    have h2 : j < (encN obj d[i]!).length := by omega
    rw [getElem!_pos (encN obj d[i]!) j h2]
    rw [List.getElem?_eq_getElem h2] at hj
    exact Option.some.inj hj
  rw [e]
theorem owns_belowP {w w' : World} {base size n : Nat} {e : TypeId} {v : Value} {xs : List Value} (h : w.ownsRow base e size v n xs) (k : Below w.heap.size w w') : w'.ownsRow base e size v n xs :=
  ⟨h.1, h.2.imp id fun ⟨g, cap, cur, h1, h2, h3, r⟩ => ⟨g, cap, cur, h1, h2, (k.block g (lt_of_heap h3)).trans h3, r⟩⟩
theorem cells_newP (w : World) (l : List Value) (t : TypeId) : ∀ (j : Nat) (u : Value), l[j]? = some u → (w.alloc (.cells l.toArray t)).cell? ((⟨w.heap.size, 0, none⟩ : Addr).add j) = some u := fun j u hj => by
  have e : (⟨w.heap.size, 0, none⟩ : Addr).add j = ⟨w.heap.size, j, none⟩ := by unfold Addr.add; split <;> simp_all
  rw [e, cell_of_heap (heap_new _ _), List.getElem?_toArray]
  exact hj
end Go.Proofs.YtjgiiciniplbnaaGreatDoor

namespace Go.Proofs.YtjgiiciniplbnaaGreatDoor
open Go Go.RowKit Go.Lib Go.Sort
set_option linter.unusedVariables false

theorem idxS (S : Nat → Bool) (k : Nat) (h : k < 16) (w : World) : (Instr.index 126 (.agg (bools S).toArray) (.int .i64 (k : Int))).run Tryz.prog w = .ok (.bool (S k)) w := by
  have h1 := bools_get S k h
  simp [Instr.index, run_underlying Tryz.underlying126, h, h1, go_sem]
set_option maxRecDepth 100000 in
set_option maxHeartbeats 8000000 in
theorem ranked_any (obj : List Nat) (ho : obj.length = 32) (hlt : ∀ x ∈ obj, x < 256) (S : Nat → Bool) (w : World) (V : Vars w shaRound shaStart) :
    Calls Tryz.prog 65 #[.agg (bools S).toArray, .agg (u8s obj).toArray] w fun e w' => ∃ pb, e = .returned (.slice (some ⟨pb, 0, none⟩) (rkd obj S).length (rkd obj S).length) ∧ OwnI w' pb (rkd obj S) ∧ w.heap.size ≤ pb ∧ Below w.heap.size w w' := by
  obtain ⟨b, hb⟩ : ∃ y, y = w.heap.size := ⟨_, rfl⟩
  obtain ⟨w1, hw1⟩ : ∃ y, y = (w.alloc (.cells (bools S).toArray 126)).alloc (.cells (u8s obj).toArray 23) := ⟨_, rfl⟩
  have hb1 : Below w.heap.size w w1 := by rw [hw1]; exact ((Below.refl _ _).alloc (Nat.le_refl _) _).alloc (by simp) _
  have hs1 : w1.heap.size = b + 2 := by rw [hw1, hb]; simp
  have HR0 := hid (show w1.heap[b]? = some (.cells (bools S).toArray 126 (0, 0)) from by rw [hw1, hb]; exact heap_alloc (heap_new _ _) _)
  have HR1 := hid (show OwnD w1 (b + 1) obj from by
    have h := heap_new (w.alloc (.cells (bools S).toArray 126)) (.cells (u8s obj).toArray 23)
    have e : (w.alloc (.cells (bools S).toArray 126)).heap.size = w.heap.size + 1 := by simp
    rw [e] at h
    rw [hw1, hb]
    exact h)
  have HB1 := hid hb1
  have HV1 := hid (V.below hb1)
  have HS1 := hid hs1
  have HRG0 := hid (range_own HR0.out)
  have HIF0 := hid (show (Tryz.prog.info? 126).map (·.size) = some (bools S).length from by rw [bools_length]; kernel_rfl)
  have HIF := hid (show (Tryz.prog.info? 23).map (·.size) = some (u8s obj).length from by rw [show (u8s obj).length = 32 from by simp [u8s, ho]]; kernel_rfl)
  have HRA := hid (fun (k : Nat) (wx : World) (hB : Below w1.heap.size w1 wx) => rankOf_any obj ho hlt (k : Int) wx (HV1.out.below hB))
  have HO := hid ho
  have HW1 := hid hw1
  have HBB := hid hb
  have HOWN0 := hid (show w1.ownsRow w1.heap.size 123 33 (.slice none 0 0) (memb S 0).length (flatR obj (memb S 0)) from World.ownsRow_nil _ _ _ _)
  obtain ⟨i0, hi0, hz0, hz1, hz2⟩ := info_parts infoR
  have HI0 := hid hi0
  have HZ0 := hid hz0
  have HZ1 := hid hz1
  have HZ2 := hid hz2
  clear V hb1 hw1 hb hs1 ho hi0 hz0 hz1 hz2
  go_enter Tryz.func65, Tryz.ntmps65
  go_upto_region 1 with fail
  rw [← HW1.out, ← HBB.out]
  go_wp2_with (refine wpList_load_mid (by rfl) 126 (.tmp 2) (by rfl) b 0 (by rfl) (bools S) _ HRG0.out Tryz.underlying126 rfl HIF0.out ?_)
  go_loopw [5, 12] (fun vs iv wx => ∃ k : Nat, k ≤ 16 ∧ iv = .int .i64 k ∧ Hid (wx.ownsRow w1.heap.size 123 33 vs (memb S k).length (flatR obj (memb S k))) ∧ Hid (Below w1.heap.size w1 wx)) (fun _ iv _ => 16 - (intOf iv).toNat)
  case atStart => exact ⟨0, by omega, rfl, HOWN0, hid (Below.refl _ _)⟩
  case round =>
    obtain ⟨k, hk, rfl, HOW, HBW⟩ := hrel
    by_cases h16 : k < 16
    · as_aux_lemma =>
      have h16' : (k : Int) < 16 := by omega
      have hix : ∀ wx, (Instr.index 126 (.agg (bools S).toArray) (.int .i64 (k : Int))).run Tryz.prog wx = .ok (.bool (S k)) wx := fun wx => idxS S k h16 wx
      have hnl := memb_le S k
      have e1 : w1.heap.size = b + 2 := HS1.out
      cases hS : S k with
      | true =>
        rw [hS] at hix
        have hms : memb S (k + 1) = memb S k ++ [k] := by rw [memb_succ, hS]; rfl
        have HMS := hid hms
        have HRG1 := hid (range_own ((HBW.out.block (b + 1) (by omega)).trans HR1.out))
        have HRK := hid (HRA.out k wr HBW.out)
        clear hms hS
        go_wp2_with (refine wpList_load_mid (by rfl) 23 (.tmp 3) (by rfl) (b + 1) 0 (by rfl) (u8s obj) _ HRG1.out Tryz.underlying23 rfl HIF.out ?_)
        refine HRK.out.mono ?_
        rintro e w4 ⟨rfl, hb4⟩
        have HB4 := hid (HBW.out.trans (hb4.mono HBW.out.size))
        have HOW4 := hid (owns_belowP HOW.out hb4)
        have hszB : w1.heap.size ≤ w4.heap.size := HB4.out.size
        have HO5 := hid (HOW4.out.alloc (.cells (rk (scL obj (k : Int)) (k : Int)).toArray 123))
        have HB5 := hid (HB4.out.alloc hszB (.cells (rk (scL obj (k : Int)) (k : Int)).toArray 123))
        clear hb4 HRK
        go_wp2_with (first
          | (refine wpList_build1R (by rfl) (.tmp 20) (by rfl) (scL obj (k : Int)) (k : Int) (scL_length _ _) (by rfl) ?_)
          | (refine wpList_append_own _ rfl (.tmp 17) (.tmp 21) _ rfl w1.heap.size 123 i0 _ 33 40 Tryz.underlying183 HI0.out HZ0.out HZ1.out HZ2.out rfl (by decide) _ (memb S k).length (flatR obj (memb S k)) rfl HO5.out ⟨w4.heap.size, 0, none⟩ 1 1 (encN obj k) rfl (encN_length obj k) (cells_newP _ _ _) (encN_one obj k) (by unfold maxLen; omega) (by omega) (by simp; omega) ?_
             intro v6 w6 hown6 hg6 _))
        rw [← flatR_snoc, ← HMS.out] at hown6
        have hl6 : (memb S k).length + 1 = (memb S (k + 1)).length := by rw [HMS.out]; simp
        rw [hl6] at hown6
        have HOW6 := hid hown6
        have HB6 := hid (HB5.out.grown hg6 (by simp; omega) (fun g hg => (HO5.out.lt g hg).1))
        clear hown6 hg6 hl6
        go_wp2
        exact ⟨⟨k + 1, by omega, by go_num, HOW6, HB6⟩, by simp [intOf]; omega⟩
      | false =>
        rw [hS] at hix
        have hms : memb S (k + 1) = memb S k := by rw [memb_succ, hS]; rfl
        have HOW6 := HOW
        rw [← hms] at HOW6
        clear hms hS
        go_wp2
        exact ⟨⟨k + 1, by omega, by go_num, HOW6, HBW⟩, by simp [intOf]; omega⟩
    · obtain rfl : k = 16 := by omega
      have h16' : ¬ (16 : Int) < 16 := by omega
      obtain ⟨n, hn⟩ : ∃ n, n = (memb S 16).length := ⟨_, rfl⟩
      have hnl := memb_le S 16
      rw [← hn] at hnl
      have hlen := rkd_length obj S
      rw [← hn] at hlen
      have hvs : ∃ p cap, u5 = .slice p n cap ∧ (0 < n → ∃ g, p = some ⟨g, 0, none⟩ ∧ w1.heap.size ≤ g ∧ g < wr.heap.size) := by
        have h := HOW.out
        rw [← hn] at h
        rcases h.2 with ⟨h1, h2⟩ | ⟨g, cap, cur, h1, h2, h3, _⟩
        · exact ⟨none, 0, by rw [h1, h2], fun h0 => by omega⟩
        · exact ⟨some ⟨g, 0, none⟩, cap, h1, fun _ => ⟨g, rfl, h2, lt_of_heap h3⟩⟩
      obtain ⟨p, cap, rfl, hp⟩ := hvs
      have hsort : Calls Tryz.prog 97 #[.slice p n cap, .func (.func 63) #[] #[]] wr fun e w' => e = .returned (.tuple #[]) ∧ Below w1.heap.size w1 w' ∧ (0 < n → ∃ g, p = some ⟨g, 0, none⟩ ∧ w1.heap.size ≤ g ∧ g < w'.heap.size ∧ ∀ i, i < n → w'.rangeAt g (i * 33) (encN obj ((rkd obj S).getD i 0))) := by
        rcases Nat.eq_zero_or_pos n with h0 | h0
        · rw [h0]
          refine (AnyF.slices_SortFunc_none Tryz.sortRk p cap _ wr).mono ?_
          rintro e w' ⟨rfl, rfl⟩
          exact ⟨rfl, HBW.out, fun h => by omega⟩
        · obtain ⟨g, rfl, hg1, hg2⟩ := hp h0
          have how := HOW.out
          rw [← hn] at how
          have hH := holdsR how hn.symm h0
          have hsz : (memb S 16).toArray.size = n := by rw [List.size_toArray, hn]
          have hcon := AnyQ.slices_SortFunc_total Tryz.sortRk 33 Tryz.isAgg123 Tryz.sizeOf123 (encN obj) (encN_length obj) (encN_one obj) (cfN obj) (cfN_swo obj) 63 #[] g 0 cap (memb S 16).toArray wr
            (fun args w => callFunc_enter Tryz.func63 (by kernel_rfl) (by rfl) args w)
            (fun m os dk hd x y => cranks_any (scL obj x) (scL obj y) x y (scL_length _ _) (scL_length _ _) _) hH hg2 (by omega) (cfN_total obj)
          rw [hsz] at hcon
          refine hcon.mono ?_
          rintro e w' ⟨rfl, q, os, rfl⟩
          have hk := sortW_kept obj wr g q ((memb S 16).toArray.toList.mergeSort fun x y => !ltOf (cfN obj) y x).toArray os
          have hds : ((memb S 16).toArray.toList.mergeSort fun x y => !ltOf (cfN obj) y x).toArray.size = (memb S 16).toArray.size := by simp
          refine ⟨rfl, HBW.out.trans (hk.below HBW.out.size hg1), fun _ => ⟨g, rfl, hg1, Nat.lt_of_lt_of_le hg2 hk.size, fun i hi => ?_⟩⟩
          have hr := sortW_range (n := q) (os := os) hH hg2 hds i (by rw [hds, hsz]; exact hi)
          have e9 : ((memb S 16).toArray.toList.mergeSort fun x y => !ltOf (cfN obj) y x).toArray[i]! = (rkd obj S).getD i 0 := by
            show (rkd obj S).toArray[i]! = _
            have hil : i < (rkd obj S).length := by omega
            simp [List.getD_eq_getElem?_getD, hil]
          rw [e9] at hr
          exact hr
      have HSO := hid hsort
      have HLN := hid hlen
      clear hsort hp hn hlen HRA HOWN0
      go_wp2_with fail
      refine HSO.out.mono ?_
      rintro e w5 ⟨rfl, hb5, hrg⟩
      have HB5 := hid hb5
      have HRG := hid hrg
      have hmk := mk_i64 n (by omega) w5
      obtain ⟨w6, hw6⟩ : ∃ y, y = w5.alloc (.cells (i64s (List.replicate n 0)).toArray 3) := ⟨_, rfl⟩
      obtain ⟨pb, hpb⟩ : ∃ y, y = w5.heap.size := ⟨_, rfl⟩
      have hb56 : Below w5.heap.size w5 w6 := by rw [hw6]; exact (Below.refl _ _).alloc (Nat.le_refl _) _
      have HOI6 := hid (show OwnI w6 pb (upTo n (fun i => (rkd obj S).getD i 0) 0) from by rw [upTo_zero, hw6, hpb]; exact heap_new _ _)
      rw [← hw6, ← hpb] at hmk
      have HB56 := hid hb56
      have HPB := hid hpb
      have HB6 := hid (HB5.out.trans (hb56.mono HB5.out.size))
      have hpb6 : pb < w6.heap.size := lt_of_heap HOI6.out
      have hpb1 : w1.heap.size ≤ pb := by rw [hpb]; exact HB5.out.size
      have HRG6 := hid (show 0 < n → ∃ g, p = some ⟨g, 0, none⟩ ∧ g < pb ∧ ∀ i, i < n → w6.rangeAt g (i * 33) (encN obj ((rkd obj S).getD i 0)) from fun h0 => by
        obtain ⟨g, h1, h2, h3, h4⟩ := HRG.out h0
        exact ⟨g, h1, by omega, fun i hi => range_same (h4 i hi) (HB56.out.block g h3)⟩)
      have HW6 := hid hw6
      clear hb5 hrg hb56 hpb HRG hw6
      go_wp2_with fail
      go_loopw [31] (fun iv wx => ∃ i : Nat, i ≤ n ∧ iv = .int .i64 i ∧ Hid (OwnI wx pb (upTo n (fun i => (rkd obj S).getD i 0) i)) ∧ Hid (Kept pb w6 wx)) (fun iv _ => n - (intOf iv).toNat)
      case atStart => exact ⟨0, by omega, rfl, HOI6, hid (Kept.refl _ _)⟩
      case round =>
        obtain ⟨i, hi, rfl, HOI, HK⟩ := hrel
        by_cases hin : i < n
        · as_aux_lemma =>
          have hin' : (i : Int) < (n : Int) := by omega
          obtain ⟨g, rfl, hgp, hrr⟩ := HRG6.out (by omega)
          have hr1 : wr.rangeAt g (i * 33) (encN obj ((rkd obj S).getD i 0)) := range_same (hrr i hin) (HK.out.block g (by omega) (by omega))
          have HR := hid hr1
          have hel := encN_length obj ((rkd obj S).getD i 0)
          have heo := encN_one obj ((rkd obj S).getD i 0)
          have hlast : (encN obj ((rkd obj S).getD i 0))[32]? = some (.int .i64 (((rkd obj S).getD i 0 : Nat) : Int)) := rk_last _ _ (scL_length _ _)
          have HST := hid (upTo_set n (fun i => (rkd obj S).getD i 0) i)
          generalize (rkd obj S).getD i 0 = q at *
          generalize encN obj q = EN at *
          have HL := hid hlast
          have HEL := hid hel
          have HIE := hid (show (Tryz.prog.info? 123).map (·.size) = some EN.length from by rw [hel]; kernel_rfl)
          have HIE2 := hid (show (Tryz.prog.info? 123).map (·.size) = some EN.toArray.size from by rw [List.size_toArray, hel]; kernel_rfl)
          have HOE := hid (show EN.toArray.all (·.oneCell') = true from all_oneCell_toArray heo)
          have HSZ := hid (show (33 : Nat) = EN.toArray.size from by rw [List.size_toArray, hel])
          have hpw : pb < wr.heap.size := lt_of_heap HOI.out
          clear hr1 hlast hel heo hrr
          go_wp2_with (first
            | (refine wpList_load_mid (by rfl) 123 (.tmp 34) (by rfl) g (i * 33) (by rfl) EN _ HR.out Tryz.underlying123 rfl HIE.out ?_)
            | (refine wpList_store_row (by rfl) 123 (.tmp 10) (.tmp 35) (by rfl) wr.heap.size _ EN.toArray 123 (by rfl) (by rfl) (heap_new _ _) HIE2.out HSZ.out HOE.out ?_
               intro w8 hw8 hk8
               have d32 : w8.cell? ⟨wr.heap.size, 32, none⟩ = some (.int .i64 ((q : Nat) : Int)) := by rw [cell_of_heap hw8, List.getElem?_toArray]; exact HL.out
               have HOI8 := hid (show OwnI w8 pb _ from (hk8.block pb (by simp; omega) (by omega)).trans (heap_alloc HOI.out _))
               have p1 := hid (HOI8.out.cell i (by rw [upTo_length]; exact hin))
               have c1 := p1.out
               have f1 := HOI8.out.free i
               have HK8 := hid (show Kept pb w6 w8 from (HK.out.alloc _).fresh hk8 (by have := HK.out.size; omega))))
          have hset := HOI8.out.set i q
          rw [HST.out] at hset
          exact ⟨⟨i + 1, by omega, by go_num, hid hset, hid (HK8.out.setCell rfl _)⟩, by simp [intOf]; omega⟩
        · obtain rfl : i = n := by omega
          have hin' : ¬ (i : Int) < (i : Int) := by omega
          go_wp2
          go_ret
          have hoi := HOI.out
          have e5 : upTo i (fun i => (rkd obj S).getD i 0) i = rkd obj S := by
            rw [upTo_all]
            have e6 := range_getD (rkd obj S)
            rw [HLN.out] at e6
            exact e6
          rw [e5] at hoi
          refine ⟨pb, by rw [HLN.out]; rfl, hoi, by have := HB1.out.size; omega, ?_⟩
          exact HB1.out.trans ((HB6.out.trans (HK.out.below HB6.out.size hpb1)).mono HB1.out.size)
end Go.Proofs.YtjgiiciniplbnaaGreatDoor

namespace Go.Proofs.YtjgiiciniplbnaaGreatDoor
open Go.ChangeShapes Go.WideShapes Go.ChangeAt Go.RowKit
set_option linter.unusedVariables false

/-- a slice of bytes that came in -/
def By (W : World) (a : Option Addr) (n c : Nat) (l : List Nat) : Prop := Bs W (.slice a n c) l ∧ n ≤ c ∧ (a = none → c = 0)
/-- a slice of numbers that reads as l -/
def Is (w : World) (v : Value) (l : List Int) : Prop :=
  ∃ a c, v = .slice a l.length c ∧ (∀ n ∈ l, (Lit.int .i64 n).wf = true) ∧ (l ≠ [] → ∃ b o, a = some ⟨b, o, none⟩ ∧ ∀ i, i < l.length → w.cell? ⟨b, o + i, none⟩ = some (.int .i64 (l.getD i 0)))
/-- a slice of pieces that came in -/
def Pcn (W : World) (a : Option Addr) (n c : Nat) (ps : List (Int × Sl)) (D : Nat → List Nat) : Prop :=
  Ps W (.slice a n c) ps ∧ n ≤ c ∧ (a = none → c = 0) ∧ ∀ i, (h : i < ps.length) → (Lit.int .i64 ps[i].1).wf = true ∧ By W ps[i].2.1 ps[i].2.2.1 ps[i].2.2.2 (D i)

theorem add_none (b o i : Nat) : (⟨b, o, none⟩ : Addr).add i = ⟨b, o + i, none⟩ := by unfold Addr.add; split <;> simp_all

section
variable {H : Type} {enc : TypeId × Value → H} {W : World}

theorem open_by {fuel : Nat} {cs : List Value} {x : DataW H × List MemPlace} (h : DataW.trod enc Tryz.prog W 0 (fun _ => true) true fuel 66 cs = some x) : ∃ a n c l, cs = [.slice a n c] ∧ By W a n c l := by
  rcases open_ints Tryz.underlying66 Tryz.underlying5 (by kernel_rfl) h with ⟨hcs, _⟩ | ⟨a, l, c, zs, hcs, _, hl, hm, hz, _, hcell, hwz⟩
  · exact ⟨none, 0, 0, [], hcs, bs_nil W, Nat.le_refl _, fun _ => rfl⟩
  · exact ⟨some a, l, c, _, hcs, bs_of_ints hl (by simpa using hz) hcell hwz, hl, fun h => by cases h⟩
theorem open_is {fuel : Nat} {cs : List Value} {x : DataW H × List MemPlace} (h : DataW.trod enc Tryz.prog W 0 (fun _ => true) true fuel 27 cs = some x) : ∃ a n c l, cs = [.slice a n c] ∧ Is W (.slice a n c) l ∧ n ≤ c ∧ (a = none → c = 0) := by
  rcases open_ints Tryz.underlying27 Tryz.underlying3 (by kernel_rfl) h with ⟨hcs, _⟩ | ⟨a, len, c, zs, hcs, _, hl, hm, hz, _, hcell, hwz⟩
  · exact ⟨none, 0, 0, [], hcs, ⟨none, 0, rfl, fun n h => absurd h List.not_mem_nil, fun h => absurd rfl h⟩, Nat.le_refl _, fun _ => rfl⟩
  · have hz' : zs.length = c := by simpa using hz
    have hlen : (zs.take len).length = len := by simp; omega
    refine ⟨some a, len, c, zs.take len, hcs, ⟨some a, c, by rw [hlen], fun n hn => hwz n (List.mem_of_mem_take hn), fun hne => ?_⟩, hl, fun h => by cases h⟩
    have h0 : 0 < len := by
      rcases Nat.eq_zero_or_pos len with h | h
      · subst h; exact absurd rfl hne
      · exact h
    obtain ⟨b, o, spot⟩ := a
    have hc := hcell 0 (by omega)
    have hspot : spot = none := by simpa [Addr.add] using World.cell?_spot hc
    subst hspot
    refine ⟨b, o, rfl, fun i hi => ?_⟩
    rw [hlen] at hi
    have h1 := hcell i (by omega)
    rw [add_none] at h1
    rw [h1, List.getD_eq_getElem?_getD, List.getD_eq_getElem?_getD, List.getElem?_take_of_lt hi]

theorem open_pcn {fuel : Nat} {cs : List Value} {x : DataW H × List MemPlace} (h : DataW.trod enc Tryz.prog W 0 (fun _ => true) true fuel 63 cs = some x) : ∃ a n c ps D, cs = [.slice a n c] ∧ Pcn W a n c ps D := by
  rcases Deep.open_slice_pairs Tryz.underlying63 Tryz.underlying68 (by kernel_rfl) rfl rfl (by kernel_rfl) (by kernel_rfl) h with ⟨hcs, _⟩ | ⟨a, len, cap, m, n, V0, V1, D0, D1, P0, P1, hcs, _, hl, _, hm, _, hx⟩
  · exact ⟨none, 0, 0, [], fun _ => [], hcs, ⟨none, 0, rfl, fun h => absurd rfl h⟩, Nat.le_refl _, fun _ => rfl, fun i h => absurd h (Nat.not_lt_zero _)⟩
  · have hm' : m = cap := by simpa using hm
    have each : ∀ i, i < len → ∃ q : (Int × Sl) × List Nat, V0 i = .int .i64 q.1.1 ∧ V1 i = .slice q.1.2.1 q.1.2.2.1 q.1.2.2.2 ∧ (Lit.int .i64 q.1.1).wf = true ∧ By W q.1.2.1 q.1.2.2.1 q.1.2.2.2 q.2 := fun i hi => by
      obtain ⟨_, _, h0, h1⟩ := hx i (by omega)
      obtain ⟨y, e0, _, hwf⟩ := DataW.trod_int Tryz.underlying3 h0
      obtain ⟨a', n', c', l', e1, hb⟩ := open_by h1
      simp only [List.cons.injEq, and_true] at e0 e1
      exact ⟨((y, a', n', c'), l'), e0, e1, hwf, hb⟩
    obtain ⟨q, hq⟩ := Deep.choose_lt each
    have hlen : ((List.range len).map fun i => (q i).1).length = len := by simp
    refine ⟨some a, len, cap, (List.range len).map fun i => (q i).1, fun i => (q i).2, hcs, ⟨some a, cap, by rw [hlen], fun hne => ?_⟩, hl, fun h => (by cases h), fun i hi => ?_⟩
    · have h0 : 0 < len := by
        rcases Nat.eq_zero_or_pos len with h | h
        · subst h; exact absurd rfl hne
        · exact h
      obtain ⟨b, o, spot⟩ := a
      obtain ⟨hc, _⟩ := hx 0 (by omega)
      have hspot : spot = none := by simpa [Addr.add] using World.cell?_spot hc
      subst hspot
      refine ⟨b, o, rfl, fun i hi => ?_⟩
      rw [hlen] at hi
      obtain ⟨h1, h2, _⟩ := hx i (by omega)
      rw [add_none] at h1 h2
      obtain ⟨e0, e1, _⟩ := hq i hi
      rw [e0] at h1
      rw [e1] at h2
      simpa using ⟨h1, h2⟩
    · rw [hlen] at hi
      obtain ⟨_, _, h2, h3⟩ := hq i hi
      simpa using ⟨h2, h3⟩
end
end Go.Proofs.YtjgiiciniplbnaaGreatDoor

namespace Go.Proofs.YtjgiiciniplbnaaGreatDoor
open Go Go.RowKit Go.Lib Go.Sort
set_option linter.unusedVariables false

theorem Is.lenP {w : World} {a : Option Addr} {n c : Nat} {l : List Int} (h : Is w (.slice a n c) l) : n = l.length := by
  obtain ⟨_, _, h1, _⟩ := h
  simp only [Value.slice.injEq] at h1
  exact h1.2.1
theorem Is.belowP {w w' : World} {v : Value} {l : List Int} (h : Is w v l) (k : Below w.heap.size w w') : Is w' v l := by
  obtain ⟨a, c, h1, h2, h3⟩ := h
  refine ⟨a, c, h1, h2, fun hl => ?_⟩
  obtain ⟨b, o, ha, hc⟩ := h3 hl
  refine ⟨b, o, ha, fun i hi => ?_⟩
  have := hc i hi
  rw [k.cell (World.block_lt_of_cell? _ _ this)]
  exact this
theorem Is.atP {w : World} {a : Option Addr} {n c : Nat} {l : List Int} (h : Is w (.slice a n c) l) (i : Nat) (hi : i < n) : ∃ b o, a = some ⟨b, o, none⟩ ∧ w.cell? ⟨b, o + i, none⟩ = some (.int .i64 (l.getD i 0)) := by
  have hn := h.lenP
  obtain ⟨a', c', h1, _, h3⟩ := h
  obtain ⟨b, o, ha, hc⟩ := h3 (by intro e; rw [e] at hn; simp at hn; omega)
  simp only [Value.slice.injEq] at h1
  exact ⟨b, o, h1.1.trans ha, hc i (by omega)⟩
theorem Is.wfP {w : World} {v : Value} {l : List Int} (h : Is w v l) (i : Nat) : -9223372036854775808 ≤ l.getD i 0 ∧ l.getD i 0 ≤ 9223372036854775807 := by
  obtain ⟨_, _, _, h2, _⟩ := h
  rw [List.getD_eq_getElem?_getD]
  by_cases hi : i < l.length
  · rw [List.getElem?_eq_getElem hi]
    have := h2 _ (List.getElem_mem hi)
    simp [Lit.wf] at this
    have e1 : IntKind.i64.min = -9223372036854775808 := rfl
    have e2 : IntKind.i64.max = 9223372036854775807 := rfl
    simp only [Option.getD_some]
    omega
  · rw [List.getElem?_eq_none (by omega)]
    simp only [Option.getD_none]
    omega
/-- which peers a list has -/
def setL (li : List Int) : Nat → Bool := fun i => li.contains (i : Int)
def setTo (li : List Int) (k : Nat) : Nat → Bool := fun i => (li.take k).contains (i : Int)
theorem bools_congr {S T : Nat → Bool} (h : ∀ i, i < 16 → S i = T i) : bools S = bools T := by
  unfold bools
  exact List.map_congr_left fun i hi => by rw [h i (List.mem_range.1 hi)]
theorem bools_set (S : Nat → Bool) (q : Nat) : (bools S).set q (.bool true) = bools (fun i => S i || i == q) := by
  apply List.ext_getElem?
  intro i
  rw [List.getElem?_set, bools_length]
  by_cases hi : i < 16
  · rw [bools_get _ i hi, bools_get _ i hi]
    by_cases e : q = i
    · subst e; simp [hi]
    · rw [if_neg e]
      have : (i == q) = false := by simp; omega
      simp [this]
  · rw [List.getElem?_eq_none (by rw [bools_length]; omega), List.getElem?_eq_none (by rw [bools_length]; omega)]
    split <;> simp_all
theorem setTo_step (li : List Int) (k : Nat) (hk : k < li.length) (i : Nat) : setTo li (k + 1) i = (setTo li k i || ((i : Int) == li.getD k 0)) := by
  unfold setTo
  have e : li.take (k + 1) = li.take k ++ [li.getD k 0] := by
    rw [List.take_add_one, List.getD_eq_getElem?_getD, List.getElem?_eq_getElem hk]
    rfl
  rw [e, Bool.eq_iff_iff]
  simp
theorem memb_congr {S T : Nat → Bool} (h : ∀ i, i < 16 → S i = T i) : memb S 16 = memb T 16 := by
  unfold memb
  exact List.filter_congr fun i hi => by rw [h i (List.mem_range.1 hi)]
theorem rkd_congr {obj : List Nat} {S T : Nat → Bool} (h : ∀ i, i < 16 → S i = T i) : rkd obj S = rkd obj T := by unfold rkd; rw [memb_congr h]
/-- block b is an array of bools -/
def OwnB (w : World) (b : Nat) (S : Nat → Bool) : Prop := w.heap[b]? = some (.cells (bools S).toArray 126 (0, 0))
theorem OwnB.cell {w : World} {b : Nat} {S : Nat → Bool} (h : OwnB w b S) (i : Nat) (hi : i < 16) : w.cell? ⟨b, i, none⟩ = some (.bool (S i)) := by
  rw [cell_of_heap h, List.getElem?_toArray, bools_get S i hi]
theorem OwnB.free {w : World} {b : Nat} {S : Nat → Bool} (h : OwnB w b S) (i : Nat) : w.frozen? ⟨b, i, none⟩ = false := free_of_heap h i
theorem OwnB.set {w : World} {b : Nat} {S : Nat → Bool} (h : OwnB w b S) (q : Nat) : OwnB (w.setCell ⟨b, q, none⟩ (.bool true)) b (fun i => S i || i == q) := by
  have := heap_set h q (.bool true)
  unfold OwnB
  rw [this, ← bools_set]
  simp
theorem OwnB.below {w w' : World} {b : Nat} {S : Nat → Bool} (h : OwnB w b S) (k : Below w.heap.size w w') : OwnB w' b S := (k.block b (lt_of_heap h)).trans h
set_option maxRecDepth 100000 in
theorem isPeer_any (x : Int) (w : World) : Calls Tryz.prog 69 #[.int .i64 x] w fun e w' => e = .returned (.bool (decide (0 ≤ x) && decide (x < 16))) ∧ w = w' := by
  by_cases h1 : 0 ≤ x
  · by_cases h2 : x < 16
    · have e1 : (decide (0 ≤ x) && decide (x < 16)) = true := by simp [h1, h2]
      rw [e1]
      go_enter Tryz.func69, Tryz.ntmps69
      go_wp2
      go_ret
      exact ⟨rfl, rfl⟩
    · have e1 : (decide (0 ≤ x) && decide (x < 16)) = false := by simp [h2]
      rw [e1]
      go_enter Tryz.func69, Tryz.ntmps69
      go_wp2
      go_ret
      exact ⟨rfl, rfl⟩
  · have e1 : (decide (0 ≤ x) && decide (x < 16)) = false := by simp [h1]
    rw [e1]
    go_enter Tryz.func69, Tryz.ntmps69
    go_wp2
    go_ret
    exact ⟨rfl, rfl⟩
set_option maxRecDepth 100000 in
set_option maxHeartbeats 4000000 in
theorem newPeerSet_any (a : Option Addr) (n c : Nat) (li : List Int) (w : World) (hi : Is w (.slice a n c) li) (hsz : n ≤ 1000000) :
    Calls Tryz.prog 66 #[.slice a n c] w fun e w' => e = .returned (.agg (bools (setL li)).toArray) ∧ Below w.heap.size w w' := by
  have HI := hid hi
  have hn := hi.lenP
  have HN := hid hn
  obtain ⟨b, hb⟩ : ∃ y, y = w.heap.size := ⟨_, rfl⟩
  obtain ⟨w1, hw1⟩ : ∃ y, y = (w.alloc (.cells (bools fun _ => false).toArray 126)).alloc (.cells (bools fun _ => false).toArray 126) := ⟨_, rfl⟩
  have hb1 : Below w.heap.size w w1 := by rw [hw1]; exact ((Below.refl _ _).alloc (Nat.le_refl _) _).alloc (by simp) _
  have HR0 := hid (show OwnB w1 b (fun _ => false) from by rw [hw1, hb]; exact heap_alloc (heap_new _ _) _)
  have HR1 := hid (show OwnB w1 (b + 1) (setTo li 0) from by
    have h := heap_new (w.alloc (.cells (bools fun _ => false).toArray 126)) (.cells (bools fun _ => false).toArray 126)
    have e : (w.alloc (.cells (bools fun _ => false).toArray 126)).heap.size = w.heap.size + 1 := by simp
    rw [e] at h
    rw [hw1, hb]
    exact h)
  have HB1 := hid hb1
  have HW1 := hid hw1
  have HBB := hid hb
  clear hb1 hw1 hb hi hn
  go_enter Tryz.func66, Tryz.ntmps66
  go_upto_region 2 with fail
  change Code.wp _ _ _ _ ((w.alloc (.cells (bools fun _ => false).toArray 126)).alloc (.cells (bools fun _ => false).toArray 126))
  rw [← HW1.out, ← HBB.out]
  go_wp2
  go_loopw [8] (fun iv wx => ∃ k : Nat, k ≤ n ∧ iv = .int .i64 k ∧ Hid (OwnB wx (b + 1) (setTo li k)) ∧ Hid (Kept (b + 1) w1 wx)) (fun iv _ => n - (intOf iv).toNat)
  case atStart => exact ⟨0, by omega, rfl, HR1, hid (Kept.refl _ _)⟩
  case round =>
    obtain ⟨k, hk, rfl, HOW, HK⟩ := hrel
    by_cases hkn : k < n
    · as_aux_lemma =>
      have hkn' : (k : Int) < (n : Int) := by omega
      have hbw := HB1.out.trans ((HK.out.below (by have := HBB.out; have := HB1.out.size; omega) (by have := HBB.out; omega)) : Below w.heap.size w1 wr)
      obtain ⟨gb, go, rfl, c1⟩ := (HI.out.belowP hbw).atP k hkn
      have HST := hid (fun i => setTo_step li k (by rw [← HN.out]; exact hkn) i)
      generalize li.getD k 0 = x at *
      have HIP := hid (isPeer_any x wr)
      clear hbw
      by_cases h1 : 0 ≤ x ∧ x < 16
      · as_aux_lemma =>
        obtain ⟨q, rfl⟩ : ∃ q : Nat, x = (q : Int) := ⟨x.toNat, by omega⟩
        have hq : q < 16 := by omega
        have e1 : (decide (0 ≤ (q : Int)) && decide ((q : Int) < 16)) = true := by simp; omega
        rw [e1] at HIP
        have hcq := HOW.out.cell q hq
        have hfq := HOW.out.free q
        have hq' : (q : Int) < 16 := by omega
        clear e1 h1
        go_wp2_with fail
        refine HIP.out.mono ?_
        rintro e w4 ⟨rfl, rfl⟩
        go_wp2
        have hset := HOW.out.set q
        have e6 : bools (fun i => setTo li k i || i == q) = bools (setTo li (k + 1)) := bools_congr fun i _ => by
          have e7 : (i == q) = ((i : Int) == (q : Int)) := by
            rw [Bool.eq_iff_iff]
            simp only [beq_iff_eq]
            omega
          rw [HST.out i, e7]
        have e5 : OwnB (wr.setCell ⟨b + 1, q, none⟩ (.bool true)) (b + 1) (setTo li (k + 1)) := by
          unfold OwnB at hset ⊢
          rw [hset, e6]
        exact ⟨⟨k + 1, by omega, by go_num, hid e5, hid (HK.out.setCell rfl _)⟩, by simp [intOf]; omega⟩
      · as_aux_lemma =>
        have e1 : (decide (0 ≤ x) && decide (x < 16)) = false := by
          rw [Bool.eq_false_iff]
          intro h
          simp at h
          exact h1 h
        rw [e1] at HIP
        clear e1
        go_wp2_with fail
        refine HIP.out.mono ?_
        rintro e w4 ⟨rfl, rfl⟩
        go_wp2
        have e5 : OwnB wr (b + 1) (setTo li (k + 1)) := by
          have h := HOW.out
          have e6 : bools (setTo li k) = bools (setTo li (k + 1)) := bools_congr fun i hi => by
            have : ((i : Int) == x) = false := by
              simp
              intro e
              apply h1
              omega
            rw [HST.out i, this, Bool.or_false]
          unfold OwnB at h ⊢
          rw [h, e6]
        exact ⟨⟨k + 1, by omega, by go_num, hid e5, HK⟩, by simp [intOf]; omega⟩
    · obtain rfl : k = n := by omega
      have hkn' : ¬ (k : Int) < (k : Int) := by omega
      have hall : bools (setTo li k) = bools (setL li) := bools_congr fun i _ => by unfold setTo setL; rw [List.take_of_length_le (by rw [← HN.out]; exact Nat.le_refl _)]
      have hR : wr.heap[b + 1]? = some (.cells (bools (setL li)).toArray 126 (0, 0)) := by
        have h := HOW.out
        unfold OwnB at h
        rw [h, hall]
      have HRG := hid (range_own hR)
      have HR0r := hid ((HK.out.block b (lt_of_heap HR0.out) (by omega)).trans HR0.out)
      have hl := bools_length (setL li)
      have HON := hid (bools_one (setL li))
      obtain ⟨BL, hBL⟩ : ∃ y, y = bools (setL li) := ⟨_, rfl⟩
      rw [← hBL] at hR hl HON HRG
      have HBL := hid hBL
      have HIF := hid (show (Tryz.prog.info? 126).map (·.size) = some BL.length from by rw [hl]; kernel_rfl)
      have HIF2 := hid (show (Tryz.prog.info? 126).map (·.size) = some BL.toArray.size from by rw [List.size_toArray, hl]; kernel_rfl)
      have HOS := hid (show (bools fun _ => false).toArray.size = BL.toArray.size from by rw [List.size_toArray, List.size_toArray, hl, bools_length])
      have HOA := hid (show BL.toArray.all (·.oneCell') = true from all_oneCell_toArray HON.out)
      clear hall hR hl hBL
      go_wp2_with (first
        | (refine wpList_load_mid (by rfl) 126 (.tmp 3) (by rfl) (b + 1) 0 (by rfl) BL _ HRG.out Tryz.underlying126 rfl HIF.out ?_)
        | (refine wpList_store_row (by rfl) 126 (.tmp 2) (.tmp 17) (by rfl) b _ BL.toArray _ (by rfl) (by rfl) HR0r.out HIF2.out HOS.out HOA.out ?_
           intro w8 hw8 hk8))
      have hres : (loadVar 126 ⟨b, 0, none⟩).run Tryz.prog w8 = .ok (.agg BL.toArray) w8 := run_loadVar_row _ _ 126 126 _ (0, 0) _ hw8 Tryz.underlying126 rfl HIF2.out
      refine bodyPost_ret (v := .agg BL.toArray) (results_at Tryz.results66 rfl hres) rfl ⟨by rw [HBL.out], ?_⟩
      have hbw := HB1.out.trans ((HK.out.below (by have := HBB.out; have := HB1.out.size; omega) (by have := HBB.out; omega)) : Below w.heap.size w1 wr)
      exact hbw.trans (hk8.below hbw.size (by have := HBB.out; omega))
end Go.Proofs.YtjgiiciniplbnaaGreatDoor

namespace Go.Proofs.YtjgiiciniplbnaaGreatDoor
open Go Go.RowKit Go.Lib Go.Sort
set_option linter.unusedVariables false

/-- a load, as an operation -/
theorem run_load_opP {P : Program} {ev : Operand → Value} {o : Oper} {ty : TypeId} {x : Operand} {w : World} {v : Value} {ad : Addr} (h : (loadVar ty ad).run P w = .ok v w) (ho : o.op = .load ty x := by rfl) (hx : ev x = .pointer (some ad) := by rfl) :
    (execOp ev o).run P w = .ok (.value v) w := by
  unfold execOp
  simp only [ho, hx, Instr.loadAt, Instr.sureAddr, Sem.run_bind, Sem.run_pure, Result.andThen_ok, h]
/-- the first peers -/
def setN (P : Int) : Nat → Bool := fun i => decide ((i : Int) < P)
set_option maxRecDepth 100000 in
set_option maxHeartbeats 4000000 in
theorem Ranking_any (obj : List Nat) (ho : obj.length = 32) (hlt : ∀ x ∈ obj, x < 256) (P : Int) (w : World) (V : Vars w shaRound shaStart) :
    Calls Tryz.prog 20 #[.agg (u8s obj).toArray, .int .i64 P] w fun e w' => ∃ pb, e = .returned (.slice (some ⟨pb, 0, none⟩) (rkd obj (setN P)).length (rkd obj (setN P)).length) ∧ OwnI w' pb (rkd obj (setN P)) ∧ w.heap.size ≤ pb ∧ Below w.heap.size w w' := by
  obtain ⟨b, hb⟩ : ∃ y, y = w.heap.size := ⟨_, rfl⟩
  obtain ⟨w1, hw1⟩ : ∃ y, y = (w.alloc (.cells (u8s obj).toArray 23)).alloc (.cells (bools fun _ => false).toArray 126) := ⟨_, rfl⟩
  have hb1 : Below w.heap.size w w1 := by rw [hw1]; exact ((Below.refl _ _).alloc (Nat.le_refl _) _).alloc (by simp) _
  have HR0 := hid (show OwnD w1 b obj from by rw [hw1, hb]; exact heap_alloc (heap_new _ _) _)
  have hf : bools (fun _ => false) = bools (fun i => decide (i < 0)) := bools_congr fun i _ => by simp
  have HR1 := hid (show OwnB w1 (b + 1) (fun i => decide (i < 0)) from by
    have h := heap_new (w.alloc (.cells (u8s obj).toArray 23)) (.cells (bools fun _ => false).toArray 126)
    have e : (w.alloc (.cells (u8s obj).toArray 23)).heap.size = w.heap.size + 1 := by simp
    rw [e] at h
    unfold OwnB
    rw [← hf, hw1, hb]
    exact h)
  have HB1 := hid hb1
  have HW1 := hid hw1
  have HBB := hid hb
  have HIF := hid (show (Tryz.prog.info? 23).map (·.size) = some (u8s obj).length from by rw [show (u8s obj).length = 32 from by simp [u8s, ho]]; kernel_rfl)
  have HRK := hid (fun (wx : World) (h : Below w.heap.size w wx) => ranked_any obj ho hlt (setN P) wx (V.below h))
  obtain ⟨mm, hmm⟩ : ∃ mm, mm = min P 16 := ⟨_, rfl⟩
  have hm1 : mm ≤ 16 := by omega
  have HMM := hid (show mm = P ∨ (mm = 16 ∧ 16 ≤ P) from by omega)
  have hmn : min P 16 = mm := hmm.symm
  clear V hb1 hw1 hb hf hmm ho
  go_enter Tryz.func20, Tryz.ntmps20
  go_upto_region 2 with fail
  change Code.wp _ _ _ _ ((w.alloc (.cells (u8s obj).toArray 23)).alloc (.cells (bools fun _ => false).toArray 126))
  rw [← HW1.out, ← HBB.out]
  go_wp2
  go_loopw [9] (fun iv wx => ∃ k : Nat, ((k : Int) ≤ mm ∨ k = 0) ∧ iv = .int .i64 k ∧ Hid (OwnB wx (b + 1) (fun i => decide (i < k))) ∧ Hid (Kept (b + 1) w1 wx)) (fun iv _ => mm.toNat - (intOf iv).toNat)
  case atStart => exact ⟨0, .inr rfl, rfl, HR1, hid (Kept.refl _ _)⟩
  case round =>
    obtain ⟨k, hk, rfl, HOW, HK⟩ := hrel
    by_cases hkn : (k : Int) < mm
    · as_aux_lemma =>
      have hk16 : (k : Int) < 16 := by omega
      have hk16' : k < 16 := by omega
      have hcq := HOW.out.cell k hk16'
      have hfq := HOW.out.free k
      go_wp2
      have hset := HOW.out.set k
      have e6 : bools (fun i => decide (i < k) || i == k) = bools (fun i => decide (i < k + 1)) := bools_congr fun i _ => by
        rw [Bool.eq_iff_iff]
        simp only [Bool.or_eq_true, decide_eq_true_eq, beq_iff_eq]
        omega
      have e5 : OwnB (wr.setCell ⟨b + 1, k, none⟩ (.bool true)) (b + 1) (fun i => decide (i < k + 1)) := by
        unfold OwnB at hset ⊢
        rw [hset, e6]
      exact ⟨⟨k + 1, .inl (by omega), by go_num, hid e5, hid (HK.out.setCell rfl _)⟩, by simp [intOf]; omega⟩
    · have hall : bools (fun i => decide (i < k)) = bools (setN P) := bools_congr fun i hi => by
        unfold setN
        rw [Bool.eq_iff_iff]
        simp only [decide_eq_true_eq]
        have := HMM.out
        omega
      have hR : wr.heap[b + 1]? = some (.cells (bools (setN P)).toArray 126 (0, 0)) := by
        have h := HOW.out
        unfold OwnB at h
        rw [h, hall]
      have HRG := hid (range_own hR)
      have HRG0 := hid (range_own ((HK.out.block b (lt_of_heap HR0.out) (by omega)).trans HR0.out))
      have hl := bools_length (setN P)
      have hbw : Below w.heap.size w wr := HB1.out.trans (HK.out.below (by have := HBB.out; have := HB1.out.size; omega) (by have := HBB.out; omega))
      have HBW := hid hbw
      have hrk := HRK.out wr hbw
      obtain ⟨BL, hBL⟩ : ∃ y, y = bools (setN P) := ⟨_, rfl⟩
      rw [← hBL] at hR hl HRG hrk
      have HRKr := hid hrk
      have HIFB := hid (show (Tryz.prog.info? 126).map (·.size) = some BL.length from by rw [hl]; kernel_rfl)
      clear hall hR hl hBL hrk hbw hmn HRK
      go_wp2_with (first
        | (refine wpList_load_mid (by rfl) 126 (.tmp 5) (by rfl) (b + 1) 0 (by rfl) BL _ HRG.out Tryz.underlying126 rfl HIFB.out ?_)
        | (refine wpList_load_mid (by rfl) 23 (.tmp 2) (by rfl) b 0 (by rfl) (u8s obj) _ HRG0.out Tryz.underlying23 rfl HIF.out ?_))
      refine HRKr.out.mono ?_
      rintro e w5 ⟨pb, rfl, hoi, hlo, hb5⟩
      have hsz := HBW.out.size
      go_wp2_with fail
      go_ret
      exact ⟨pb, rfl, hoi, by omega, HBW.out.trans (hb5.mono hsz)⟩

/-- how many of L numbers are chosen -/
def chN (n : Int) (L : Nat) : Nat := (min (max n 0) (L : Int)).toNat
theorem chN_le (n : Int) (L : Nat) : chN n L ≤ L := by unfold chN; omega
theorem chN_int (n : Int) (L : Nat) : min (max n 0) (L : Int) = ((chN n L : Nat) : Int) := by unfold chN; omega
theorem uptoI (b o n c k : Nat) (h : k ≤ c) (w' : World) : (Instr.sliceAt 27 (.slice (some ⟨b, o, none⟩) n c) none (some (.int .i64 (k : Int))) none).run Tryz.prog w' = .ok (.slice (some ⟨b, o, none⟩) k c) w' := by
  have u1 : (k : Int) ≤ (c : Int) := by omega
  have u2 : (0 : Int) ≤ (k : Int) := by omega
  simp [go_sem, Tryz.underlying27, u1, u2]
set_option maxRecDepth 100000 in
set_option maxHeartbeats 4000000 in
theorem Chosen_any (obj : List Nat) (ho : obj.length = 32) (hlt : ∀ x ∈ obj, x < 256) (a : Option Addr) (n c : Nat) (li : List Int) (N : Int) (w : World) (V : Vars w shaRound shaStart) (hi : Is w (.slice a n c) li) (hsz : n ≤ 1000000) :
    Calls Tryz.prog 24 #[.agg (u8s obj).toArray, .slice a n c, .int .i64 N] w fun e w' => ∃ pb, e = .returned (.slice (some ⟨pb, 0, none⟩) (chN N (rkd obj (setL li)).length) (rkd obj (setL li)).length) ∧ OwnI w' pb (rkd obj (setL li)) ∧ w.heap.size ≤ pb ∧ Below w.heap.size w w' := by
  obtain ⟨w1, hw1⟩ : ∃ y, y = w.alloc (.cells (u8s obj).toArray 23) := ⟨_, rfl⟩
  have hb1 : Below w.heap.size w w1 := by rw [hw1]; exact (Below.refl _ _).alloc (Nat.le_refl _) _
  have HR0 := hid (show OwnD w1 w.heap.size obj from by rw [hw1]; exact heap_new _ _)
  have HB1 := hid hb1
  have HW1 := hid hw1
  have HNP := hid (fun (wx : World) (h : Below w.heap.size w wx) => newPeerSet_any a n c li wx (hi.belowP h) hsz)
  have HRK := hid (fun (wx : World) (h : Below w.heap.size w wx) => ranked_any obj ho hlt (setL li) wx (V.below h))
  have HIF := hid (show (Tryz.prog.info? 23).map (·.size) = some (u8s obj).length from by rw [show (u8s obj).length = 32 from by simp [u8s, ho]]; kernel_rfl)
  obtain ⟨OB, hOB⟩ : ∃ y, y = (u8s obj).toArray := ⟨_, rfl⟩
  have HKP := hid (show ∀ wx, Below w1.heap.size w1 wx → Below w1.heap.size w1 wx ∧ (loadVar 23 ⟨w.heap.size, 0, none⟩).run Tryz.prog wx = .ok (.agg OB) wx from fun wx h => ⟨h, by
    rw [hOB]
    exact run_loadVar_mid (P := Tryz.prog) wx w.heap.size 0 23 (u8s obj) _ (range_own ((h.block _ (lt_of_heap HR0.out)).trans HR0.out)) Tryz.underlying23 rfl HIF.out⟩)
  rw [← hOB] at HRK HW1
  rw [← hOB]
  clear hOB
  generalize rkd obj (setL li) = RL at *
  generalize bools (setL li) = BL at *
  have hcl := chN_le N RL.length
  have hci := chN_int N RL.length
  have HCI := hid hci
  generalize chN N RL.length = m at *
  generalize hL : RL.length = L at *
  clear V hb1 hw1 hi hsz hci
  go_enter Tryz.func24, Tryz.ntmps24
  go_upto_region 1 with fail
  rw [← HW1.out]
  refine wp_region_held_drew (S := (fun wx => Below w1.heap.size w1 wx ∧ (loadVar 23 ⟨w.heap.size, 0, none⟩).run Tryz.prog wx = .ok (.agg OB) wx)) (by kernel_rfl) (HKP.out _ (bel_drewN (Below.refl _ _) 1)) (fun hHeld => ?_)
  refine wpAnyH_take (i := 0) (oi := { dst := some 8, op := Op.move (Operand.tmp 1), type := 27, pos := "place.go:50", after := #[], guard := none }) (v := ?_) rfl (by kernel_rfl) (by kernel_rfl) (by kernel_rfl) (fun _ _ _ h => h) (Or.inl ⟨by rfl, ?hy⟩) hHeld ?_
  case hy => (intro w hSw; (try dsimp only at hSw); obtain ⟨_, _⟩ := hSw; go_simp; all_goals (with_reducible rfl))
  try simp only [Act.put, List.setIfInBounds_toArray, List.set_cons_zero, List.set_cons_succ]
  refine wpAnyH_take (i := 2) (oi := { dst := some 10, op := Op.load 23 (Operand.tmp 3), type := 23, pos := "place.go:50", after := #[], guard := none }) (v := .agg OB) rfl (by kernel_rfl) (by kernel_rfl) (by kernel_rfl) (fun _ _ _ h => h) (Or.inl ⟨by rfl, ?hy⟩) hHeld ?_
  case hy => (intro w hSw; exact run_load_opP hSw.2)
  try simp only [Act.put, List.setIfInBounds_toArray, List.set_cons_zero, List.set_cons_succ]
  refine wpAnyH_ready (rs := [1]) (by kernel_rfl) (by simp) ?_
  refine AllReadyH.cons (o := { dst := some 9, op := Op.call { callee := Callee.value (Operand.func 66), args := #[Operand.tmp 8], argTypes := #[27] }, type := 126, pos := "place.go:50", after := #[{ on := 0, ground := Ground.data }], guard := none }) rfl (fun K hK => ?_) AllReadyH.nil
  go_simp
  refine (HNP.out _ (HB1.out.trans (hHeld.1.mono HB1.out.size))).mono ?_
  rintro e w2 ⟨rfl, hb2⟩
  have G2 := hHeld.1.trans (hb2.mono hHeld.1.size)
  clear hb2
  clear hHeld
  go_wp2_with fail
  refine hK.out _ _ (HKP.out _ G2) (fun hHeld => ?_)
  clear hK K
  try simp only [Act.put, List.setIfInBounds_toArray, List.set_cons_zero, List.set_cons_succ]
  refine wpAnyH_ready (rs := [3]) (by kernel_rfl) (by simp) ?_
  refine AllReadyH.cons (o := { dst := some 11, op := Op.call { callee := Callee.value (Operand.func 65), args := #[Operand.tmp 9, Operand.tmp 10], argTypes := #[126, 23] }, type := 27, pos := "place.go:50", after := #[{ on := 1, ground := Ground.data }, { on := 2, ground := Ground.data }, { on := 1, ground := Ground.chain }], guard := none }) rfl (fun K hK => ?_) AllReadyH.nil
  go_simp
  refine (HRK.out _ (HB1.out.trans (G2.mono HB1.out.size))).mono ?_
  rintro e w3 ⟨pb, rfl, hoi, hlo, hb3⟩
  have G3 := G2.trans (hb3.mono G2.size)
  have HOI := hid hoi
  have hlo2 : w.heap.size ≤ pb := Nat.le_trans HB1.out.size (Nat.le_trans G2.size hlo)
  clear hb3 hoi hlo
  clear hHeld
  go_wp2_with fail
  refine hK.out _ _ (HKP.out _ G3) (fun hHeld => ?_)
  clear hK K
  try simp only [Act.put, List.setIfInBounds_toArray, List.set_cons_zero, List.set_cons_succ]
  refine wpAnyH_take (i := 4) (oi := { dst := some 7, op := Op.assign (Operand.tmp 11), type := 27, pos := "place.go:50", after := #[{ on := 3, ground := Ground.data }, { on := 3, ground := Ground.chain }, { on := 0, ground := Ground.phase }, { on := 1, ground := Ground.phase }, { on := 2, ground := Ground.phase }, { on := 3, ground := Ground.phase }], guard := none }) (v := ?_) rfl (by kernel_rfl) (by kernel_rfl) (by kernel_rfl) (fun _ _ _ h => h) (Or.inl ⟨by rfl, ?hy⟩) hHeld ?_
  case hy => (intro w hSw; (try dsimp only at hSw); obtain ⟨_, _⟩ := hSw; go_simp; all_goals (with_reducible rfl))
  try simp only [Act.put, List.setIfInBounds_toArray, List.set_cons_zero, List.set_cons_succ]
  refine wpAnyH_done (by kernel_rfl) ?_ _
  have hup := fun wx => uptoI pb 0 L L m hcl wx
  have hci := HCI.out
  go_wp2_with fail
  go_ret
  exact ⟨pb, rfl, HOI.out, hlo2, HB1.out.trans (G3.mono HB1.out.size)⟩
end Go.Proofs.YtjgiiciniplbnaaGreatDoor

namespace Go.Proofs.YtjgiiciniplbnaaGreatDoor
open Go Go.RowKit Go.Lib Go.Sort
set_option linter.unusedVariables false

set_option maxRecDepth 100000 in
set_option maxHeartbeats 4000000 in
theorem index_any (a : Option Addr) (n c : Nat) (li : List Int) (x : Int) (w : World) (hi : Is w (.slice a n c) li) (hsz : n ≤ 1000000) :
    Calls Tryz.prog 98 #[.slice a n c, .int .i64 x] w fun e w' => (∃ r : Int, e = .returned (.int .i64 r) ∧ (0 ≤ r ↔ x ∈ li)) ∧ w = w' := by
  have HI := hid hi
  have hn := hi.lenP
  have HN := hid hn
  clear hi hn
  go_enter Tryz.func98, Tryz.ntmps98
  go_wp2
  go_loopw [8] (fun iv wx => ∃ k : Nat, k ≤ n ∧ iv = .int .i64 k ∧ Hid (wx = w) ∧ Hid (∀ q, q < k → li.getD q 0 ≠ x)) (fun iv _ => n - (intOf iv).toNat)
  case atStart => exact ⟨0, by omega, rfl, hid rfl, hid (fun q h => by omega)⟩
  case round =>
    obtain ⟨k, hk, rfl, HW, HA⟩ := hrel
    have hw := HW.out
    subst hw
    by_cases hkn : k < n
    · as_aux_lemma =>
      have hkn' : (k : Int) < (n : Int) := by omega
      obtain ⟨gb, go, rfl, c1⟩ := HI.out.atP k hkn
      have HY := hid (show li.getD k 0 = li.getD k 0 from rfl)
      have HST := hid (fun (h : li.getD k 0 ≠ x) => (show ∀ q, q < k + 1 → li.getD q 0 ≠ x from fun q hq => by
        rcases Nat.lt_or_ge q k with h2 | h2
        · exact HA.out q h2
        · obtain rfl : q = k := by omega
          exact h))
      have HC := hid (fun (h : li.getD k 0 = x) => (show x ∈ li from by
        rw [← h, List.getD_eq_getElem?_getD, List.getElem?_eq_getElem (by rw [← HN.out]; exact hkn)]
        exact List.getElem_mem _))
      generalize li.getD k 0 = y at *
      by_cases hxy : x = y
      · have e1 : (x == y) = true := by simp [hxy]
        have HE := hid hxy.symm
        clear hxy
        go_wp2
        go_ret
        exact ⟨⟨(k : Int), rfl, fun _ => HC.out HE.out, fun _ => by omega⟩, by trivial⟩
      · have e1 : (x == y) = false := by simp [hxy]
        have HE := hid (fun h : y = x => hxy h.symm)
        clear hxy
        go_wp2
        exact ⟨⟨k + 1, by omega, by go_num, hid (by trivial), hid (HST.out HE.out)⟩, by simp [intOf]; omega⟩
    · obtain rfl : k = n := by omega
      have hkn' : ¬ (k : Int) < (k : Int) := by omega
      have HC := hid (show ¬ x ∈ li from by
        intro h
        obtain ⟨q, hq, e⟩ := List.getElem_of_mem h
        exact HA.out q (by rw [HN.out]; exact hq) (by rw [List.getD_eq_getElem?_getD, List.getElem?_eq_getElem hq]; exact e))
      go_wp2
      go_ret
      exact ⟨⟨-1, rfl, fun h => by omega, fun h => absurd h HC.out⟩, by trivial⟩
set_option maxRecDepth 100000 in
theorem contains_any (a : Option Addr) (n c : Nat) (li : List Int) (x : Int) (w : World) (hi : Is w (.slice a n c) li) (hsz : n ≤ 1000000) :
    Calls Tryz.prog 68 #[.slice a n c, .int .i64 x] w fun e w' => e = .returned (.bool (li.contains x)) ∧ w = w' := by
  have HIX := hid (index_any a n c li x w hi hsz)
  clear hi
  obtain ⟨r, hr⟩ : ∃ r, r = li.contains x := ⟨_, rfl⟩
  rw [← hr]
  have HR := hid hr
  clear hr
  go_enter Tryz.func68, Tryz.ntmps68
  go_wp2_with fail
  refine HIX.out.mono ?_
  rintro e w2 ⟨⟨q, rfl, hq⟩, rfl⟩
  have e : decide (0 ≤ q) = r := by rw [HR.out, Bool.eq_iff_iff, List.contains_iff_mem, decide_eq_true_eq]; exact hq
  subst e
  clear HIX HR hq
  go_wp2
  go_ret
  exact ⟨rfl, rfl⟩
/-- numbers in a block read as a list -/
theorem is_of_own {w : World} {b : Nat} {l : List Nat} (h : OwnI w b l) (m c : Nat) (hm : m ≤ l.length) (hs : ∀ x ∈ l, x < 1000000) : Is w (.slice (some ⟨b, 0, none⟩) m c) ((l.take m).map Int.ofNat) := by
  refine ⟨some ⟨b, 0, none⟩, c, by simp [Nat.min_eq_left hm], fun x hx => ?_, fun _ => ⟨b, 0, rfl, fun i hi => ?_⟩⟩
  · obtain ⟨y, hy, rfl⟩ := List.mem_map.1 hx
    have := hs y (List.mem_of_mem_take hy)
    simp [Lit.wf]
    have e1 : IntKind.i64.min = -9223372036854775808 := rfl
    have e2 : IntKind.i64.max = 9223372036854775807 := rfl
    omega
  · have hi2 : i < m := by simp at hi; omega
    rw [Nat.zero_add, h.cell i (by omega)]
    simp [List.getD_eq_getElem?_getD, List.getElem?_map, List.getElem?_take_of_lt hi2, List.getElem?_eq_getElem (show i < l.length by omega)]
theorem mem_ofNat (l : List Nat) (p : Nat) : (l.map Int.ofNat).contains (p : Int) = l.contains p := by
  rw [Bool.eq_iff_iff, List.contains_iff_mem, List.contains_iff_mem, List.mem_map]
  constructor
  · rintro ⟨y, hy, e⟩
    have : y = p := by have := Int.ofNat_inj.1 e; exact this
    rwa [← this]
  · intro h
    exact ⟨p, h, rfl⟩
/-- the chosen peers -/
def chosenL (obj : List Nat) (li : List Int) (N : Int) : List Nat := (rkd obj (setL li)).take (chN N (rkd obj (setL li)).length)
theorem rkd_lt (obj : List Nat) (S : Nat → Bool) : ∀ x ∈ rkd obj S, x < 1000000 := fun x hx => by have := ((rkd_mem obj S x).1 hx).1; omega
/-- what a peer has to do -/
def dty (obj : List Nat) (self : Int) (li : List Int) (n : Int) (held buried : Bool) : Int :=
  if buried && held then 3 else if buried || decide (n < 1) then 0 else
    if ((chosenL obj li n).map Int.ofNat).contains self && !held then 1 else if held && !((chosenL obj li n).map Int.ofNat).contains self && decide (((chosenL obj li n).length : Int) = n) then 2 else 0
set_option maxRecDepth 100000 in
set_option maxHeartbeats 8000000 in
theorem Duty_any (obj : List Nat) (ho : obj.length = 32) (hlt : ∀ x ∈ obj, x < 256) (self : Int) (a : Option Addr) (n c : Nat) (li : List Int) (N : Int) (held buried : Bool) (w : World) (V : Vars w shaRound shaStart) (hi : Is w (.slice a n c) li) (hsz : n ≤ 1000000) :
    Calls Tryz.prog 28 #[.agg (u8s obj).toArray, .int .i64 self, .slice a n c, .int .i64 N, .bool held, .bool buried] w fun e w' => e = .returned (.int .u8 (dty obj self li N held buried)) ∧ Below w.heap.size w w' := by
  obtain ⟨w1, hw1⟩ : ∃ y, y = w.alloc (.cells (u8s obj).toArray 23) := ⟨_, rfl⟩
  have hb1 : Below w.heap.size w w1 := by rw [hw1]; exact (Below.refl _ _).alloc (Nat.le_refl _) _
  have HR0 := hid (show OwnD w1 w.heap.size obj from by rw [hw1]; exact heap_new _ _)
  have HB1 := hid hb1
  have HW1 := hid hw1
  have HCH := hid (Chosen_any obj ho hlt a n c li N w1 (V.below hb1) (hi.belowP hb1) hsz)
  have HIF := hid (show (Tryz.prog.info? 23).map (·.size) = some (u8s obj).length from by rw [show (u8s obj).length = 32 from by simp [u8s, ho]]; kernel_rfl)
  have HRG := hid (range_own HR0.out)
  have hch : chosenL obj li N = (rkd obj (setL li)).take (chN N (rkd obj (setL li)).length) := rfl
  have hrl := rkd_lt obj (setL li)
  have hm16 : (rkd obj (setL li)).length ≤ 16 := by rw [rkd_length]; exact memb_le _ _
  obtain ⟨D, hD⟩ : ∃ D, D = dty obj self li N held buried := ⟨_, rfl⟩
  rw [← hD]
  unfold dty at hD
  rw [hch] at hD
  have hcl := chN_le N (rkd obj (setL li)).length
  generalize rkd obj (setL li) = RL at *
  generalize chN N RL.length = m at *
  have hlen : (RL.take m).length = m := by simp; omega
  rw [hlen] at hD
  have HCO := hid (fun (pb : Nat) (wx : World) (h : OwnI wx pb RL) => contains_any (some ⟨pb, 0, none⟩) m RL.length ((RL.take m).map Int.ofNat) self wx (is_of_own h m RL.length hcl hrl) (by omega))
  generalize ((RL.take m).map Int.ofNat).contains self = K at *
  have HD := hid hD
  clear V hb1 hw1 hi hsz hch hrl hD hlen
  by_cases hbh : buried = true ∧ held = true
  · obtain ⟨rfl, rfl⟩ := hbh
    have e : D = 3 := by rw [HD.out]; rfl
    subst e
    clear HD HCH HCO
    go_enter Tryz.func28, Tryz.ntmps28
    go_wp2_with fail
    go_ret
    exact ⟨rfl, by rw [← HW1.out]; exact HB1.out⟩
  · by_cases hbn : buried = true ∨ N < 1
    · have e : D = 0 := by
        rw [HD.out]
        rcases hbn with rfl | h
        · cases held
          · rfl
          · exact absurd ⟨rfl, rfl⟩ hbh
        · cases buried <;> cases held <;> simp_all
      subst e
      clear HD HCH HCO
      have hB1 := HB1.out
      rw [HW1.out] at hB1
      have HB1' := hid hB1
      clear hB1
      cases buried
      · have hN : N < 1 := hbn.elim (fun h => by cases h) id
        go_enter Tryz.func28, Tryz.ntmps28
        go_wp2_with fail
        go_ret
        exact ⟨rfl, HB1'.out⟩
      · cases held
        · go_enter Tryz.func28, Tryz.ntmps28
          go_wp2_with fail
          go_ret
          exact ⟨rfl, HB1'.out⟩
        · exact absurd ⟨rfl, rfl⟩ hbh
    · have hb : buried = false := Bool.eq_false_iff.2 fun h => hbn (.inl h)
      subst hb
      have hN : ¬ N < 1 := fun h => hbn (.inr h)
      have hd : D = if K && !held then 1 else if held && !K && decide (((m : Nat) : Int) = N) then 2 else 0 := by
        rw [HD.out]
        simp [hN]
      have HD2 := hid hd
      clear hd HD hbh hbn
      go_enter Tryz.func28, Tryz.ntmps28
      go_upto_region 1 with fail
      rw [← HW1.out]
      go_wp2_with (refine wpList_load_mid (by rfl) 23 (.tmp 6) (by rfl) w.heap.size 0 (by rfl) (u8s obj) _ HRG.out Tryz.underlying23 rfl HIF.out ?_)
      refine HCH.out.mono ?_
      rintro e w2 ⟨pb, rfl, hoi, hlo, hb2⟩
      have HCO2 := hid (HCO.out pb w2 hoi)
      have HB2 := hid (HB1.out.trans (hb2.mono HB1.out.size))
      clear hb2 hoi hlo HCO HCH
      go_wp2_with fail
      refine HCO2.out.mono ?_
      rintro e w3 ⟨rfl, rfl⟩
      cases held
      · cases K
        · have e : D = 0 := by rw [HD2.out]; rfl
          subst e
          go_wp2_with fail
          go_ret
          exact ⟨rfl, HB2.out⟩
        · have e : D = 1 := by rw [HD2.out]; rfl
          subst e
          go_wp2_with fail
          go_ret
          exact ⟨rfl, HB2.out⟩
      · cases K
        · by_cases hmn : ((m : Nat) : Int) = N
          · have e : D = 2 := by rw [HD2.out]; simp [hmn]
            have hmn' : (((m : Nat) : Int) == N) = true := by simp [hmn]
            subst e
            clear hmn
            go_wp2_with fail
            go_ret
            exact ⟨rfl, HB2.out⟩
          · have e : D = 0 := by rw [HD2.out]; simp [hmn]
            have hmn' : (((m : Nat) : Int) == N) = false := by simp [hmn]
            subst e
            clear hmn
            go_wp2_with fail
            go_ret
            exact ⟨rfl, HB2.out⟩
        · have e : D = 0 := by rw [HD2.out]; simp
          subst e
          go_wp2_with fail
          go_ret
          exact ⟨rfl, HB2.out⟩
end Go.Proofs.YtjgiiciniplbnaaGreatDoor

namespace Go.Proofs.YtjgiiciniplbnaaGreatDoor
open Go Go.RowKit Go.Lib Go.Sort
set_option linter.unusedVariables false

theorem wpList_load_wantP {P : Program} {ops : Array Oper} {rest : List Oper} {op : Oper} {a : Act} {w : World} {Q : Exit → Act → World → Prop} (hw : Region.wanted op (yielded ops a.tmps) = true) (ty : TypeId) (x : Operand) (ho : op.op = .load ty x)
    (b o : Nat) (hx : a.eval x = .pointer (some ⟨b, o, none⟩)) (cs : List Value) (d : TypeDesc) (hc : w.rangeAt b o cs)
    (hu : P.underlying ty = some d) (hd : d.isRow = true) (hi : (P.info? ty).map (·.size) = some cs.length)
    (h : wpList P ops Q rest (a.put op.dst (.agg cs.toArray)) w) : wpList P ops Q (op :: rest) a w :=
  BigFrame.wpList_want hw fun _ hK => wp_load_mid ty x ho b o hx cs d hc hu hd hi (hK _ _ h)
/-- the peers of a list that are better than a peer -/
def bets (obj : List Nat) (self : Int) (li : List Int) (k : Nat) : List Nat := (List.range k).filter fun i => setL li i && decide (cmpP obj (i : Int) self < 0)
theorem bets_succ (obj : List Nat) (self : Int) (li : List Int) (k : Nat) : (bets obj self li (k + 1)).length = (bets obj self li k).length + (if (setL li k && decide (cmpP obj (k : Int) self < 0)) = true then 1 else 0) := by
  unfold bets
  rw [List.range_succ, List.filter_append, List.length_append]
  congr 1
  simp only [List.filter_cons, List.filter_nil]
  split <;> rfl
theorem bets_le (obj : List Nat) (self : Int) (li : List Int) (k : Nat) : (bets obj self li k).length ≤ k := by
  have := List.length_filter_le (fun i => setL li i && decide (cmpP obj (i : Int) self < 0)) (List.range k)
  simpa [bets] using this
def cov (obj : List Nat) (self n : Int) (li : List Int) : Bool := decide (1 ≤ n) && decide (n ≤ ((bets obj self li 16).length : Int))
set_option maxRecDepth 100000 in
set_option maxHeartbeats 8000000 in
theorem Covered_any (obj : List Nat) (ho : obj.length = 32) (hlt : ∀ x ∈ obj, x < 256) (self N : Int) (a : Option Addr) (n c : Nat) (li : List Int) (w : World) (V : Vars w shaRound shaStart) (hi : Is w (.slice a n c) li) (hsz : n ≤ 1000000) :
    Calls Tryz.prog 30 #[.agg (u8s obj).toArray, .int .i64 self, .int .i64 N, .slice a n c] w fun e w' => e = .returned (.bool (cov obj self N li)) ∧ Below w.heap.size w w' := by
  obtain ⟨b, hb⟩ : ∃ y, y = w.heap.size := ⟨_, rfl⟩
  obtain ⟨w1, hw1⟩ : ∃ y, y = w.alloc (.cells (u8s obj).toArray 23) := ⟨_, rfl⟩
  have hb1 : Below w.heap.size w w1 := by rw [hw1]; exact (Below.refl _ _).alloc (Nat.le_refl _) _
  have hs1 : w1.heap.size = b + 1 := by rw [hw1, hb]; simp
  have HR0 := hid (show OwnD w1 b obj from by rw [hw1, hb]; exact heap_new _ _)
  have HB1 := hid hb1
  have HW1 := hid hw1
  have HBB := hid hb
  have HS1 := hid hs1
  have HNP := hid (newPeerSet_any a n c li w1 (hi.belowP hb1) hsz)
  have HBT := hid (fun (k : Nat) (wx : World) (h : Below w.heap.size w wx) => Better_any obj ho hlt (k : Int) self wx (V.below h))
  have HIF := hid (show (Tryz.prog.info? 23).map (·.size) = some (u8s obj).length from by rw [show (u8s obj).length = 32 from by simp [u8s, ho]]; kernel_rfl)
  have hl := bools_length (setL li)
  have HON := hid (bools_one (setL li))
  have HC0 := hid (show cov obj self N li = (decide (1 ≤ N) && decide (N ≤ ((bets obj self li 16).length : Int))) from rfl)
  obtain ⟨R, hR⟩ : ∃ R, R = cov obj self N li := ⟨_, rfl⟩
  rw [← hR] at HC0 ⊢
  obtain ⟨BL, hBL⟩ : ∃ y, y = bools (setL li) := ⟨_, rfl⟩
  rw [← hBL] at hl HON HNP
  have HBL := hid hBL
  have HIF2 := hid (show (Tryz.prog.info? 126).map (·.size) = some BL.toArray.size from by rw [List.size_toArray, hl]; kernel_rfl)
  have HOS := hid (show (16 : Nat) = BL.toArray.size from by rw [List.size_toArray, hl])
  have HOA := hid (show BL.toArray.all (·.oneCell') = true from all_oneCell_toArray HON.out)
  clear V hb1 hw1 hb hs1 hi hsz hl hR hBL HON
  go_enter Tryz.func30, Tryz.ntmps30
  go_upto_region 1 with fail
  rw [← HW1.out, ← HBB.out]
  go_wp2_with fail
  refine HNP.out.mono ?_
  rintro e w2 ⟨rfl, hb2⟩
  have HB2 := hid (HB1.out.trans (hb2.mono HB1.out.size))
  have HR2 := hid (show OwnD w2 b obj from (hb2.block b (lt_of_heap HR0.out)).trans HR0.out)
  obtain ⟨sb, hsb⟩ : ∃ y, y = w2.heap.size := ⟨_, rfl⟩
  have hsbw : w.heap.size ≤ sb := by rw [hsb]; exact HB2.out.size
  have hbs : b < sb := by rw [hsb]; exact lt_of_heap HR2.out
  have HSB := hid hsb
  clear hb2 hsb
  go_wp2_with (refine wpList_store_row (by rfl) 126 (.tmp 9) (.tmp 13) (by rfl) w2.heap.size _ BL.toArray 126 (by rfl) (by rfl) (heap_new _ _) HIF2.out HOS.out HOA.out ?_
               intro w3 hw3 hk3)
  rw [← HSB.out] at hw3 hk3 ⊢
  have HS3 := hid (show OwnB w3 sb (setL li) from by unfold OwnB; rw [hw3, HBL.out])
  have HR3 := hid (show OwnD w3 b obj from (hk3.block b (by simp; have := lt_of_heap HR2.out; omega) (by omega)).trans (heap_alloc HR2.out _))
  have HB3 := hid ((HB2.out.alloc HB2.out.size (.cells (bools fun _ => false).toArray 126)).trans ((hk3.below (by simp; have := HB2.out.size; omega) hsbw)))
  clear hw3 hk3
  go_loopw [10, 14] (fun nv iv wx => ∃ k : Nat, k ≤ 16 ∧ iv = .int .i64 k ∧ nv = .int .i64 ((bets obj self li k).length : Int) ∧ Hid (Below w3.heap.size w3 wx)) (fun _ iv _ => 16 - (intOf iv).toNat)
  case atStart => exact ⟨0, by omega, rfl, rfl, hid (Below.refl _ _)⟩
  case round =>
    obtain ⟨k, hk, rfl, rfl, HBW⟩ := hrel
    have hbl := bets_le obj self li k
    have HST := hid (bets_succ obj self li k)
    have HEND := hid (show k = 16 → R = (decide (1 ≤ N) && decide (N ≤ ((bets obj self li k).length : Int))) from fun e => by rw [e]; exact HC0.out)
    generalize (bets obj self li k).length = q at *
    by_cases h16 : k < 16
    · as_aux_lemma =>
      have h16' : (k : Int) < 16 := by omega
      have c1 := (HS3.out.below HBW.out).cell k h16
      have HBT2 := hid (HBT.out k wr (HB3.out.trans (HBW.out.mono HB3.out.size)))
      have HRG := hid (range_own ((HBW.out.block b (lt_of_heap HR3.out)).trans HR3.out))
      cases hS : setL li k with
      | false =>
        rw [hS] at c1 HST
        have E1 := hid (show (bets obj self li (k + 1)).length = q from by rw [HST.out]; simp)
        clear hS HBT2
        go_wp2_with fail
        exact ⟨⟨k + 1, by omega, by go_num, by rw [E1.out], HBW⟩, by simp [intOf]; omega⟩
      | true =>
        rw [hS] at c1 HST
        generalize decide (cmpP obj (k : Int) self < 0) = d at *
        clear hS
        go_wp2_with (refine wpList_load_wantP (by rfl) 23 (.tmp 4) (by rfl) b 0 (by rfl) (u8s obj) _ HRG.out Tryz.underlying23 rfl HIF.out ?_)
        refine HBT2.out.mono ?_
        rintro e w5 ⟨rfl, hb5⟩
        have HB5 := hid (HBW.out.trans (hb5.mono HBW.out.size))
        clear hb5 HBT2 c1
        cases d
        · have E1 := hid (show (bets obj self li (k + 1)).length = q from by rw [HST.out]; simp)
          go_wp2_with fail
          exact ⟨⟨k + 1, by omega, by go_num, by rw [E1.out], HB5⟩, by simp [intOf]; omega⟩
        · have E1 := hid (show (bets obj self li (k + 1)).length = q + 1 from by rw [HST.out]; simp)
          go_wp2_with fail
          exact ⟨⟨k + 1, by omega, by go_num, by rw [E1.out]; go_num, HB5⟩, by simp [intOf]; omega⟩
    · obtain rfl : k = 16 := by omega
      have hR := HEND.out rfl
      have HBE := hid (HB3.out.trans (HBW.out.mono HB3.out.size))
      have HRR := hid hR
      clear hR
      by_cases h1 : 1 ≤ N
      · by_cases h2 : N ≤ (q : Int)
        · have e : R = true := by rw [HRR.out]; simp [h1, h2]
          subst e
          go_wp2_with fail
          go_ret
          exact ⟨rfl, HBE.out⟩
        · have e : R = false := by rw [HRR.out]; simp [h2]
          subst e
          go_wp2_with fail
          go_ret
          exact ⟨rfl, HBE.out⟩
      · have e : R = false := by rw [HRR.out]; simp [h1]
        subst e
        go_wp2_with fail
        go_ret
        exact ⟨rfl, HBE.out⟩
end Go.Proofs.YtjgiiciniplbnaaGreatDoor

namespace Go.Proofs.YtjgiiciniplbnaaGreatDoor
open Go Go.RowKit Go.Lib Go.Sort
open Go.Maps (Keyed)
set_option linter.unusedVariables false

theorem laidOutP : laidOutB Tryz.prog = true := by kernel_rfl
theorem wideD : (match Tryz.prog.underlying 23 with | some (.array _ _) | some (.struct _) => true | _ => false) = true := by rw [Tryz.underlying23]
set_option maxRecDepth 100000 in
theorem keyedD : Keyed Tryz.prog 23 := Keyed.of_law (deep_law_laid laidOutP (m := 2) (by omega) (of_decide_eq_true (by kernel_rfl)) (by kernel_rfl) wideD)
theorem keyedI : Keyed Tryz.prog 3 := Maps.int_keyed Tryz.underlying3
theorem mapM_some {α β : Type} (f : α → Option β) (g : α → β) : ∀ l : List α, (∀ x ∈ l, f x = some (g x)) → l.mapM f = some (l.map g)
  | [], _ => rfl
  | x :: l, h => by
    rw [List.mapM_cons, h x (List.mem_cons_self ..), mapM_some f g l (fun y hy => h y (List.mem_cons_of_mem _ hy))]
    rfl
set_option maxRecDepth 100000 in
/-- every digest is a key -/
theorem key_dig (l : List Nat) (hl : l.length = 32) (hlt : ∀ x ∈ l, x < 256) : ∃ kl, keyOf Tryz.prog 23 (.agg (u8s l).toArray) = some kl := by
  have hu := Tryz.underlying23
  have hkt : Tryz.prog.keyType 23 = true := by kernel_rfl
  have hc : Tryz.prog.cellsOf 23 = 32 := by kernel_rfl
  have hc1 : Tryz.prog.cellsOf 5 = 1 := by kernel_rfl
  have hlen : (u8s l).length = 32 := by simp [u8s, hl]
  have hf : (Value.agg (u8s l).toArray).formed Tryz.prog 23 = true := by simp [Value.formed, hu, hc, hlen]
  have hsz : ∃ m, Tryz.prog.types.size = m + 1 := ⟨Tryz.prog.types.size - 1, by have : 0 < Tryz.prog.types.size := of_decide_eq_true (by kernel_rfl); omega⟩
  obtain ⟨m, hm⟩ := hsz
  have h1 : ∀ i, i < 32 → Tryz.prog.keyLits (m + 1) 5 (((u8s l).drop (i * 1)).take 1) = some [.int .u8 ((l.getD i 0 : Nat) : Int)] := fun i hi => by
    have e : ((u8s l).drop (i * 1)).take 1 = [.int .u8 ((l.getD i 0 : Nat) : Int)] := by
      rw [Nat.mul_one, List.drop_eq_getElem_cons (by omega)]
      simp [u8s, List.getD_eq_getElem?_getD, List.getElem?_eq_getElem (show i < l.length by omega)]
    have hb : l.getD i 0 < 256 := by
      rw [List.getD_eq_getElem?_getD, List.getElem?_eq_getElem (show i < l.length by omega)]
      exact hlt _ (List.getElem_mem _)
    rw [e]
    unfold Program.keyLits
    rw [Tryz.underlying5]
    have hw : (Lit.int .u8 ((l.getD i 0 : Nat) : Int)).wf = true := by
      have e1 : IntKind.u8.min = 0 := rfl
      have e2 : IntKind.u8.max = 255 := rfl
      simp only [Lit.wf, Bool.and_eq_true, decide_eq_true_eq]
      omega
    dsimp only
    rw [if_pos ⟨rfl, hw⟩]
  have h2 : Tryz.prog.keyLits (Tryz.prog.types.size + 1) 23 (u8s l) = some ((List.range 32).map fun i => [Lit.int .u8 ((l.getD i 0 : Nat) : Int)]).flatten := by
    rw [hm]
    unfold Program.keyLits
    rw [hu]
    dsimp only
    rw [if_pos (by rw [hc]; exact hlen), hc1, mapM_some _ _ _ (fun i hi => h1 i (List.mem_range.1 hi))]
    rfl
  refine ⟨.string (keyBytes ((List.range 32).map fun i => [Lit.int .u8 ((l.getD i 0 : Nat) : Int)]).flatten), ?_⟩
  unfold keyOf
  rw [hu]
  dsimp only
  rw [if_pos (by rw [hkt, hf]; rfl)]
  have e : (Value.agg (u8s l).toArray).cells.toList = u8s l := rfl
  rw [e, h2]
  rfl
/-- how a map of maps reads: by its elements' blocks -/
def mapR (v : Value) : Option (DataW Unit × List MemPlace) := match v with | .map none => some (.nil, []) | .map (some b) => some (.lit (.int .i64 (b : Int)), []) | _ => none
theorem mapR_inv {v : Value} {z : DataW Unit × List MemPlace} (h : mapR v = some z) : ∃ b, v = .map b := by
  unfold mapR at h
  split at h
  · exact ⟨none, rfl⟩
  · exact ⟨some _, rfl⟩
  · cases h
theorem mapR_nil {v : Value} {ps : List MemPlace} (h : mapR v = some (.nil, ps)) : v = .map none := by
  unfold mapR at h
  split at h
  · rfl
  · simp at h
  · cases h
theorem mapR_some {v : Value} {b : Nat} {ps : List MemPlace} (h : mapR v = some (.lit (.int .i64 (b : Int)), ps)) : v = .map (some b) := by
  unfold mapR at h
  split at h
  · simp at h
  · simp at h
    have e := Int.ofNat_inj.1 h.1
    rw [e]
  · cases h
theorem zeroM (w : World) : (zeroValue 132).run Tryz.prog w = .ok (.map none) w := by kernel_rfl
theorem zeroU (w : World) : (zeroValue 43).run Tryz.prog w = .ok (.int .u64 0) w := by kernel_rfl
set_option maxRecDepth 100000 in
theorem isCurrent_any (noted clock : Int) (h1 : 0 ≤ noted) (h2 : noted < 18446744073709551616) (h3 : 0 ≤ clock) (h4 : clock < 18446744073709551616) (w : World) :
    Calls Tryz.prog 70 #[.int .u64 noted, .int .u64 clock] w fun e w' => e = .returned (.bool (decide (noted ≤ clock) && decide (clock - noted < 12))) ∧ w = w' := by
  by_cases h : noted ≤ clock
  · have hw : IntKind.u64.wrap (clock - noted) = clock - noted := by
      rw [IntKind.wrap_u64]
      omega
    by_cases h5 : clock - noted < 12
    · have e : (decide (noted ≤ clock) && decide (clock - noted < 12)) = true := by simp [h, h5]
      rw [e]
      go_enter Tryz.func70, Tryz.ntmps70
      go_wp2
      go_ret
      exact ⟨rfl, rfl⟩
    · have e : (decide (noted ≤ clock) && decide (clock - noted < 12)) = false := by simp [h5]
      rw [e]
      go_enter Tryz.func70, Tryz.ntmps70
      go_wp2
      go_ret
      exact ⟨rfl, rfl⟩
  · have e : (decide (noted ≤ clock) && decide (clock - noted < 12)) = false := by simp [h]
    rw [e]
    go_enter Tryz.func70, Tryz.ntmps70
    go_wp2
    go_ret
    exact ⟨rfl, rfl⟩
/-- a Claims: its block, and the block of its map -/
def Cl0 (w : World) (cb ob : Nat) : Prop := w.heap[cb]? = some (.cells #[.map (some ob)] 130 (0, 0)) ∧ w.ownsMap Tryz.prog 23 mapR ob 0 (.map []) ∧ cb ≠ ob
set_option maxRecDepth 100000 in
theorem NewClaims_any (w : World) : Calls Tryz.prog 32 #[] w fun e w' => e = .returned (.pointer (some ⟨w.heap.size + 1, 0, none⟩)) ∧ Cl0 w' (w.heap.size + 1) w.heap.size ∧ Below w.heap.size w w' := by
  have hmm := @run_makeMap Tryz.prog
  go_enter Tryz.func32, Tryz.ntmps32
  go_wp2
  go_ret
  refine ⟨rfl, ⟨?_, ?_, by omega⟩, ((Below.refl _ _).alloc (Nat.le_refl _) _).alloc (by simp) _⟩
  · have h := heap_new (w.alloc (.map #[] 0)) (.cells #[.map (some w.heap.size)] 130)
    have e : (w.alloc (.map #[] 0)).heap.size = w.heap.size + 1 := by simp
    rw [e] at h
    exact h
  · exact (World.ownsMap_made w _ _ _).alloc _
end Go.Proofs.YtjgiiciniplbnaaGreatDoor

namespace Go.Proofs.YtjgiiciniplbnaaGreatDoor
open Go Go.RowKit Go.Lib Go.Sort
open Go.Maps (Keyed)
set_option linter.unusedVariables false

/-- a store into a map, as a step of a region -/
theorem step_mapUpdate_own {H : Type} {P : Program} {w : World} {ops : Array Oper} {o : Oper} {a : Act} {K : Act → World → Prop} {Q : Exit → Act → World → Prop} {E : Prop}
    (hg : o.guard = none) (m x v : Operand) (t : TypeId) (hop : o.op = Op.mapUpdate t m x v)
    (k e : TypeId) (KK : Keyed P k) (ht : P.underlying t = some (.map k e)) (R : Value → Option (DataW H × List MemPlace)) (b n : Nat) (D : DataW H)
    (hm : a.eval m = .map (some b)) (hown : w.ownsMap P k R b n D) (hn : n < maxLen) (key val : Value) (kl : Lit) (hx : a.eval x = key) (hv : a.eval v = val) (hkey : keyOf P k key = some kl)
    (d : DataW H) (ps : List MemPlace) (hval : R val = some (d, ps))
    (hK : ∀ w', w'.ownsMap P k R b (n + 1) (D.put kl d) → w.grownBy w' (some b) → K (a.put o.dst undef) w') : if Region.wanted o (yielded ops a.tmps) = true then Oper.wp P o a w K Q else E := by
  rw [if_pos (by simp [Region.wanted, hg])]
  obtain ⟨w', hrun, r1, r2⟩ := hown.update KK ht hn hkey hval
  unfold Oper.wp
  simp [execOp, hop, hm, hx, hv, hrun, Result.andThen]
  exact hK w' r1 r2
theorem run_lookup_op {P : Program} {ev : Operand → Value} {o : Oper} {ty : TypeId} {m x : Operand} {w : World} {v mv xv : Value} (h : (Instr.lookup ty mv xv false).run P w = .ok v w) (ho : o.op = .lookup ty m x false := by rfl) (hm : ev m = mv := by rfl) (hx : ev x = xv := by rfl) :
    (execOp ev o).run P w = .ok (.value v) w := by
  subst hm hx
  unfold execOp
  simp only [ho]
  simp [h]
/-- one claim: of object (key kl) by peer p, noted at t -/
structure Cl1 (w : World) (cb ob ib : Nat) (kl : Lit) (p : Nat) (t : Int) : Prop where
  blk : w.heap[cb]? = some (.cells #[.map (some ob)] 130 (0, 0))
  out : w.ownsMap Tryz.prog 23 mapR ob 1 ((DataW.map []).put kl (.lit (.int .i64 (ib : Int))))
  inn : w.ownsMap (H := Unit) Tryz.prog 3 (plainElem Tryz.prog 43) ib 1 ((DataW.map []).put (.int .i64 (p : Int)) (.lit (.int .u64 t)))
  ne1 : cb ≠ ob
  ne2 : cb ≠ ib
  ne3 : ob ≠ ib
theorem below_grown {B : Nat} {w a b : World} {row : Option Nat} (h : Below B w a) (g : a.grownBy b row) (hB : B ≤ a.heap.size) (hr : ∀ q, row = some q → B ≤ q) : Below B w b := h.grown g hB hr
theorem eqMapNil (w : World) : (binOp .eql 132 (.map none) (.map none)).run Tryz.prog w = .ok (.bool true) w := by kernel_rfl
set_option maxRecDepth 100000 in
set_option maxHeartbeats 8000000 in
theorem Note_first (obj : List Nat) (ho : obj.length = 32) (kl : Lit) (hkl : keyOf Tryz.prog 23 (.agg (u8s obj).toArray) = some kl) (p : Nat) (hp : p < 16) (t : Int) (ht0 : 0 ≤ t) (ht1 : t < 18446744073709551616) (cb ob : Nat) (w : World) (hc : Cl0 w cb ob) :
    Calls Tryz.prog 33 #[.pointer (some ⟨cb, 0, none⟩), .agg (u8s obj).toArray, .int .i64 (p : Int), .int .u64 t] w fun e w' => e = .returned (.tuple #[]) ∧ ∃ ib, Cl1 w' cb ob ib kl p t ∧ w.heap.size ≤ ib ∧ Kept ob w w' := by
  obtain ⟨hc1, hc2, hc3⟩ := hc
  obtain ⟨w1, hw1⟩ : ∃ y, y = w.alloc (.cells (u8s obj).toArray 23) := ⟨_, rfl⟩
  have hb1 : Below w.heap.size w w1 := by rw [hw1]; exact (Below.refl _ _).alloc (Nat.le_refl _) _
  have HR0 := hid (show OwnD w1 w.heap.size obj from by rw [hw1]; exact heap_new _ _)
  have HC1 := hid ((hb1.block cb (lt_of_heap hc1)).trans hc1)
  have HC2 := hid (show w1.ownsMap Tryz.prog 23 mapR ob 0 (.map []) from by rw [hw1]; exact hc2.alloc _)
  have hob : ob < w.heap.size := hc2.lt
  have hcb : cb < w.heap.size := lt_of_heap hc1
  have HB1 := hid hb1
  have HW1 := hid hw1
  have HIF := hid (show (Tryz.prog.info? 23).map (·.size) = some (u8s obj).length from by rw [show (u8s obj).length = 32 from by simp [u8s, ho]]; kernel_rfl)
  obtain ⟨OB, hOB⟩ : ∃ y, y = (u8s obj).toArray := ⟨_, rfl⟩
  have HLD := hid (show ∀ wx : World, wx.heap[w.heap.size]? = w1.heap[w.heap.size]? → (loadVar 23 ⟨w.heap.size, 0, none⟩).run Tryz.prog wx = .ok (.agg OB) wx from fun wx h => by
    rw [hOB]
    exact run_loadVar_mid (P := Tryz.prog) wx w.heap.size 0 23 (u8s obj) _ (range_own (h.trans HR0.out)) Tryz.underlying23 rfl HIF.out)
  have HLU := hid (show (Instr.lookup 128 (.map (some ob)) (.agg OB) false).run Tryz.prog w1.drew = .ok (.map none) w1.drew from by
    obtain ⟨v, ps, h1, h2⟩ := (HC2.out.drew).lookup keyedD Tryz.underlying128 (zeroM _) (zd := .nil) (zp := []) rfl (key := .agg OB) (by rw [hOB]; exact hkl)
    have h3 : v = .map none := mapR_nil h2
    rw [h3] at h1
    exact h1)
  rw [← hOB] at HW1 hkl ⊢
  have HKL := hid hkl
  have HIP := hid (isPeer_any (p : Int) w1)
  have e1 : (decide (0 ≤ (p : Int)) && decide ((p : Int) < 16)) = true := by simp; omega
  rw [e1] at HIP
  have hwt : (Lit.int .u64 t).wf = true := by
    have e1 : IntKind.u64.min = 0 := rfl
    have e2 : IntKind.u64.max = 18446744073709551615 := rfl
    simp only [Lit.wf, Bool.and_eq_true, decide_eq_true_eq]
    omega
  have hwp : (Lit.int .i64 (p : Int)).wf = true := by
    have e1 : IntKind.i64.min = -9223372036854775808 := rfl
    have e2 : IntKind.i64.max = 9223372036854775807 := rfl
    simp only [Lit.wf, Bool.and_eq_true, decide_eq_true_eq]
    omega
  have HWT := hid hwt
  have HWP := hid hwp
  have hs1 : w1.heap.size = w.heap.size + 1 := by rw [hw1]; simp
  have HS1 := hid hs1
  clear hc1 hc2 hw1 hb1 hOB hkl e1 hwt hwp hs1
  go_enter Tryz.func33, Tryz.ntmps33
  go_upto_region 1 with fail
  rw [← HW1.out]
  go_wp2_with fail
  refine HIP.out.mono ?_
  rintro e w2 ⟨rfl, rfl⟩
  go_upto_region 2 with fail
  refine wp_region_held_drew (S := (fun wx => wx = w1.drew ∧ wx.cell? ⟨cb, 0, none⟩ = some (.map (some ob)))) (by kernel_rfl) (⟨rfl, cell_of_heap HC1.out 0⟩) (fun hHeld => ?_)
  refine wpAnyH_take (i := 0) (oi := { dst := some 16, op := Op.move (Operand.tmp 0), type := 40, pos := "claims.go:25", after := #[], guard := none }) (v := ?_) rfl (by kernel_rfl) (by kernel_rfl) (by kernel_rfl) (fun _ _ _ h => h) (Or.inl ⟨by rfl, ?hy⟩) hHeld ?_
  case hy => (intro w hSw; (try dsimp only at hSw); obtain ⟨_, _⟩ := hSw; go_simp; all_goals (with_reducible rfl))
  try simp only [Act.put, List.setIfInBounds_toArray, List.set_cons_zero, List.set_cons_succ]
  refine wpAnyH_take (i := 1) (oi := { dst := some 17, op := Op.nilCheck (Operand.tmp 16), type := 0, pos := "claims.go:25", after := #[{ on := 0, ground := Ground.data }], guard := none }) (v := ?_) rfl (by kernel_rfl) (by kernel_rfl) (by kernel_rfl) (fun _ _ _ h => h) (Or.inl ⟨by rfl, ?hy⟩) hHeld ?_
  case hy => (intro w hSw; (try dsimp only at hSw); obtain ⟨_, _⟩ := hSw; go_simp; all_goals (with_reducible rfl))
  try simp only [Act.put, List.setIfInBounds_toArray, List.set_cons_zero, List.set_cons_succ]
  refine wpAnyH_take (i := 2) (oi := { dst := some 18, op := Op.fieldAddr 130 (Operand.tmp 17) 0, type := 0, pos := "claims.go:25", after := #[{ on := 1, ground := Ground.data }], guard := none }) (v := ?_) rfl (by kernel_rfl) (by kernel_rfl) (by kernel_rfl) (fun _ _ _ h => h) (Or.inl ⟨by rfl, ?hy⟩) hHeld ?_
  case hy => (intro w hSw; (try dsimp only at hSw); obtain ⟨_, _⟩ := hSw; go_simp; all_goals (with_reducible rfl))
  try simp only [Act.put, List.setIfInBounds_toArray, List.set_cons_zero, List.set_cons_succ]
  refine wpAnyH_take (i := 3) (oi := { dst := some 19, op := Op.load 128 (Operand.tmp 18), type := 128, pos := "claims.go:25", after := #[{ on := 2, ground := Ground.data }], guard := none }) (v := ?_) rfl (by kernel_rfl) (by kernel_rfl) (by kernel_rfl) (fun _ _ _ h => h) (Or.inl ⟨by rfl, ?hy⟩) hHeld ?_
  case hy => (intro w hSw; (try dsimp only at hSw); obtain ⟨_, _⟩ := hSw; go_simp; all_goals (with_reducible rfl))
  try simp only [Act.put, List.setIfInBounds_toArray, List.set_cons_zero, List.set_cons_succ]
  refine wpAnyH_take (i := 4) (oi := { dst := some 20, op := Op.load 23 (Operand.tmp 5), type := 23, pos := "claims.go:25", after := #[], guard := none }) (v := .agg OB) rfl (by kernel_rfl) (by kernel_rfl) (by kernel_rfl) (fun _ _ _ h => h) (Or.inl ⟨by rfl, ?hy⟩) hHeld ?_
  case hy => (intro w hSw; exact run_load_opP (HLD.out w (by rw [hSw.1]; rfl)))
  try simp only [Act.put, List.setIfInBounds_toArray, List.set_cons_zero, List.set_cons_succ]
  refine wpAnyH_take (i := 5) (oi := { dst := some 21, op := Op.lookup 128 (Operand.tmp 19) (Operand.tmp 20) false, type := 132, pos := "claims.go:25", after := #[{ on := 3, ground := Ground.data }, { on := 4, ground := Ground.data }], guard := none }) (v := .map none) rfl (by kernel_rfl) (by kernel_rfl) (by kernel_rfl) (fun _ _ _ h => h) (Or.inl ⟨by rfl, ?hy⟩) hHeld ?_
  case hy => (intro w hSw; exact run_lookup_op (by rw [hSw.1]; exact HLU.out))
  try simp only [Act.put, List.setIfInBounds_toArray, List.set_cons_zero, List.set_cons_succ]
  refine wpAnyH_take (i := 6) (oi := { dst := some 8, op := Op.assign (Operand.tmp 21), type := 132, pos := "claims.go:25", after := #[{ on := 5, ground := Ground.data }, { on := 0, ground := Ground.phase }, { on := 1, ground := Ground.phase }, { on := 2, ground := Ground.phase }, { on := 3, ground := Ground.phase }, { on := 4, ground := Ground.phase }, { on := 5, ground := Ground.phase }], guard := none }) (v := ?_) rfl (by kernel_rfl) (by kernel_rfl) (by kernel_rfl) (fun _ _ _ h => h) (Or.inl ⟨by rfl, ?hy⟩) hHeld ?_
  case hy => (intro w hSw; (try dsimp only at hSw); obtain ⟨_, _⟩ := hSw; go_simp; all_goals (with_reducible rfl))
  try simp only [Act.put, List.setIfInBounds_toArray, List.set_cons_zero, List.set_cons_succ]
  refine wpAnyH_done (by kernel_rfl) ?_ _
  obtain ⟨w3, hw3⟩ : ∃ y, y = (w1.alloc (.map #[] 0)).drew := ⟨_, rfl⟩
  obtain ⟨ib, hib⟩ : ∃ y, y = w1.heap.size := ⟨_, rfl⟩
  have hmm := @run_makeMap Tryz.prog
  have heqm := eqMapNil
  have HD3 := hid (show w3.heap[w.heap.size]? = w1.heap[w.heap.size]? from by rw [hw3]; exact heap_alloc_old w1 _ (lt_of_heap HR0.out))
  have HC3 := hid (show w3.heap[cb]? = some (.cells #[.map (some ob)] 130 (0, 0)) from by rw [hw3]; exact (heap_alloc_old w1 _ (lt_of_heap HC1.out)).trans HC1.out)
  have HM3 := hid (show w3.ownsMap Tryz.prog 23 mapR ob 0 (.map []) from by rw [hw3]; exact (HC2.out.alloc _).drew)
  have HN3 := hid (show w3.ownsMap (H := Unit) Tryz.prog 3 (plainElem Tryz.prog 43) ib 0 (.map []) from by
    have h := World.ownsMap_made (H := Unit) w1 Tryz.prog 3 (plainElem Tryz.prog 43)
    rw [hw3, hib]
    exact h.drew)
  have hB3 : Below w.heap.size w w3 := by rw [hw3]; exact (HB1.out.alloc HB1.out.size _).drew
  have HB3 := hid hB3
  have HB3l := hid (show w.heap.size < w3.heap.size from by rw [hw3]; simp; have := HS1.out; omega)
  have hib0 : w.heap.size < ib := by rw [hib, HS1.out]; omega
  have HW3 := hid hw3
  have HIB := hid hib
  clear hw3 hib hB3
  have HKX := hid (show ∀ wx : World, wx.heap[cb]? = w3.heap[cb]? → wx.heap[w.heap.size]? = w3.heap[w.heap.size]? → wx.cell? ⟨cb, 0, none⟩ = some (.map (some ob)) ∧ (loadVar 23 ⟨w.heap.size, 0, none⟩).run Tryz.prog wx = .ok (.agg OB) wx from fun wx h1 h2 => ⟨cell_of_heap (h1.trans HC3.out) 0, HLD.out wx (h2.trans HD3.out)⟩)
  go_wp2_with fail
  go_upto_region 5 with fail
  rw [← HW3.out, ← HIB.out]
  refine wp_region_held_drew (S := (fun wx => wx.cell? ⟨cb, 0, none⟩ = some (.map (some ob)) ∧ (loadVar 23 ⟨w.heap.size, 0, none⟩).run Tryz.prog wx = .ok (.agg OB) wx)) (by kernel_rfl) (HKX.out _ rfl rfl) (fun hHeld => ?_)
  refine wpAnyH_take (i := 0) (oi := { dst := some 25, op := Op.move (Operand.tmp 0), type := 40, pos := "claims.go:28", after := #[], guard := none }) (v := ?_) rfl (by kernel_rfl) (by kernel_rfl) (by kernel_rfl) (fun _ _ _ h => h) (Or.inl ⟨by rfl, ?hy⟩) hHeld ?_
  case hy => (intro w hSw; (try dsimp only at hSw); obtain ⟨_, _⟩ := hSw; go_simp; all_goals (with_reducible rfl))
  try simp only [Act.put, List.setIfInBounds_toArray, List.set_cons_zero, List.set_cons_succ]
  refine wpAnyH_take (i := 1) (oi := { dst := some 26, op := Op.nilCheck (Operand.tmp 25), type := 0, pos := "claims.go:28", after := #[{ on := 0, ground := Ground.data }], guard := none }) (v := ?_) rfl (by kernel_rfl) (by kernel_rfl) (by kernel_rfl) (fun _ _ _ h => h) (Or.inl ⟨by rfl, ?hy⟩) hHeld ?_
  case hy => (intro w hSw; (try dsimp only at hSw); obtain ⟨_, _⟩ := hSw; go_simp; all_goals (with_reducible rfl))
  try simp only [Act.put, List.setIfInBounds_toArray, List.set_cons_zero, List.set_cons_succ]
  refine wpAnyH_take (i := 2) (oi := { dst := some 27, op := Op.fieldAddr 130 (Operand.tmp 26) 0, type := 0, pos := "claims.go:28", after := #[{ on := 1, ground := Ground.data }], guard := none }) (v := ?_) rfl (by kernel_rfl) (by kernel_rfl) (by kernel_rfl) (fun _ _ _ h => h) (Or.inl ⟨by rfl, ?hy⟩) hHeld ?_
  case hy => (intro w hSw; (try dsimp only at hSw); obtain ⟨_, _⟩ := hSw; go_simp; all_goals (with_reducible rfl))
  try simp only [Act.put, List.setIfInBounds_toArray, List.set_cons_zero, List.set_cons_succ]
  refine wpAnyH_take (i := 3) (oi := { dst := some 28, op := Op.load 128 (Operand.tmp 27), type := 128, pos := "claims.go:28", after := #[{ on := 2, ground := Ground.data }], guard := none }) (v := ?_) rfl (by kernel_rfl) (by kernel_rfl) (by kernel_rfl) (fun _ _ _ h => h) (Or.inl ⟨by rfl, ?hy⟩) hHeld ?_
  case hy => (intro w hSw; (try dsimp only at hSw); obtain ⟨_, _⟩ := hSw; go_simp; all_goals (with_reducible rfl))
  try simp only [Act.put, List.setIfInBounds_toArray, List.set_cons_zero, List.set_cons_succ]
  refine wpAnyH_take (i := 4) (oi := { dst := some 29, op := Op.load 23 (Operand.tmp 5), type := 23, pos := "claims.go:28", after := #[], guard := none }) (v := .agg OB) rfl (by kernel_rfl) (by kernel_rfl) (by kernel_rfl) (fun _ _ _ h => h) (Or.inl ⟨by rfl, ?hy⟩) hHeld ?_
  case hy => (intro w hSw; exact run_load_opP hSw.2)
  try simp only [Act.put, List.setIfInBounds_toArray, List.set_cons_zero, List.set_cons_succ]
  refine wpAnyH_take (i := 5) (oi := { dst := some 30, op := Op.move (Operand.tmp 8), type := 132, pos := "claims.go:28", after := #[], guard := none }) (v := ?_) rfl (by kernel_rfl) (by kernel_rfl) (by kernel_rfl) (fun _ _ _ h => h) (Or.inl ⟨by rfl, ?hy⟩) hHeld ?_
  case hy => (intro w hSw; (try dsimp only at hSw); obtain ⟨_, _⟩ := hSw; go_simp; all_goals (with_reducible rfl))
  try simp only [Act.put, List.setIfInBounds_toArray, List.set_cons_zero, List.set_cons_succ]
  refine wpAnyH_ready (rs := [6]) (by kernel_rfl) (by simp) ?_
  refine AllReadyH.cons (o := { dst := none, op := Op.mapUpdate 128 (Operand.tmp 28) (Operand.tmp 29) (Operand.tmp 30), type := 0, pos := "claims.go:28", after := #[{ on := 3, ground := Ground.data }, { on := 4, ground := Ground.data }, { on := 5, ground := Ground.data }, { on := 0, ground := Ground.phase }, { on := 1, ground := Ground.phase }, { on := 2, ground := Ground.phase }, { on := 3, ground := Ground.phase }, { on := 4, ground := Ground.phase }, { on := 5, ground := Ground.phase }], guard := none }) rfl (fun K hK => ?_) AllReadyH.nil
  refine step_mapUpdate_own rfl (.tmp 28) (.tmp 29) (.tmp 30) _ rfl 23 132 keyedD Tryz.underlying128 mapR ob 0 (.map []) rfl HM3.out.drew (by unfold maxLen; omega) _ _ kl rfl rfl HKL.out (.lit (.int .i64 (ib : Int))) [] rfl ?_
  intro w4 hown4 hg4
  have HO4 := hid hown4
  have HG4 := hid hg4
  clear hHeld hown4 hg4
  refine hK.out _ _ (HKX.out w4 (HG4.out.block cb (lt_of_heap HC3.out) (by simp; omega)) (HG4.out.block w.heap.size HB3l.out (by simp; omega))) (fun hHeld => ?_)
  clear hK K hHeld
  try simp only [Act.put]
  refine wpAnyH_done (by kernel_rfl) ?_ _
  have HN4 := hid (show w4.ownsMap (H := Unit) Tryz.prog 3 (plainElem Tryz.prog 43) ib 0 (.map []) from (HN3.out.drew).kept HG4.out (by intro e; cases e; omega))
  have hkI : keyOf Tryz.prog 3 (.int .i64 (p : Int)) = some (.int .i64 (p : Int)) := Maps.keyOf_int_mk Tryz.underlying3 HWP.out
  have hvU : plainElem (H := Unit) Tryz.prog 43 (.int .u64 t) = some (.lit (.int .u64 t), []) := plainElem_int Tryz.underlying43 HWT.out
  have HKI := hid hkI
  have HVU := hid hvU
  clear hkI hvU hmm heqm
  go_wp2_with (refine wpList_mapUpdate_own _ rfl (.tmp 31) (.tmp 32) (.tmp 33) 132 rfl 3 43 keyedI Tryz.underlying132 (plainElem (H := Unit) Tryz.prog 43) ib 0 (.map []) rfl HN4.out (by unfold maxLen; omega) _ _ (.int .i64 (p : Int)) rfl rfl HKI.out (.lit (.int .u64 t)) [] HVU.out ?_
               intro w5 hown5 hg5)
  go_end0
  have g4 := HG4.out
  have hsz3 : w3.heap.size ≤ w4.heap.size := g4.size
  have h3 := HB3.out
  refine ⟨rfl, ib, ⟨?_, HO4.out.kept hg5 (by intro e; cases e; omega), hown5, hc3, by omega, by omega⟩, by omega, ?_⟩
  · rw [hg5.block cb (Nat.lt_of_lt_of_le (lt_of_heap HC3.out) hsz3) (by intro e; cases e; omega), g4.block cb (lt_of_heap HC3.out) (by intro e; cases e; exact hc3 rfl)]
    exact HC3.out
  · refine ⟨hg5.os.trans (g4.os.trans h3.os), hg5.tape.trans (g4.tape.trans h3.tape), hg5.output.trans (g4.output.trans h3.output), Nat.le_trans h3.size (Nat.le_trans hsz3 hg5.size), fun k hk hne => ?_⟩
    rw [hg5.block k (Nat.lt_of_lt_of_le hk (Nat.le_trans h3.size hsz3)) (by intro e; cases e; omega), g4.block k (Nat.lt_of_lt_of_le hk h3.size) (by intro e; cases e; exact hne rfl)]
    exact h3.block k hk
end Go.Proofs.YtjgiiciniplbnaaGreatDoor
