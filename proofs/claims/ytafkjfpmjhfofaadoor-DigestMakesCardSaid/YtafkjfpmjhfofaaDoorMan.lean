/-
  Manifests: validCounts, manifestSize, validNumbers, CheckManifest.
-/
import Derived.Test.YtafkjfpmjhfofaaDoorSch
import Derived.Deep.DeepCutAuto
namespace Go.Proofs.YtafkjfpmjhfofaaDoor
open Go Go.RowKit
set_option linter.unusedVariables false

def vcB (k n t : Int) : Bool := decide (1 ≤ k ∧ k ≤ n ∧ n ≤ t ∧ t ≤ 255)
set_option maxRecDepth 100000 in
set_option maxHeartbeats 2000000 in
theorem validCounts_any (k n t : Int) (w : World) :
    Calls Tryd.prog 37 #[.int .i64 k, .int .i64 n, .int .i64 t] w fun e w' => e = .returned (.bool (vcB k n t)) ∧ w = w' := by
  by_cases h1 : 1 ≤ k
  case neg =>
    have HB := hid (show vcB k n t = false from by unfold vcB; exact decide_eq_false (fun h => h1 h.1))
    go_enter Tryd.func37, Tryd.ntmps37
    go_wp2
    go_ret
    exact ⟨by rw [HB.out]; rfl, rfl⟩
  by_cases h2 : k ≤ n
  case neg =>
    have HB := hid (show vcB k n t = false from by unfold vcB; exact decide_eq_false (fun h => h2 h.2.1))
    go_enter Tryd.func37, Tryd.ntmps37
    go_wp2
    go_ret
    exact ⟨by rw [HB.out]; rfl, rfl⟩
  by_cases h3 : n ≤ t
  case neg =>
    have HB := hid (show vcB k n t = false from by unfold vcB; exact decide_eq_false (fun h => h3 h.2.2.1))
    go_enter Tryd.func37, Tryd.ntmps37
    go_wp2
    go_ret
    exact ⟨by rw [HB.out]; rfl, rfl⟩
  by_cases h4 : t ≤ 255
  case neg =>
    have HB := hid (show vcB k n t = false from by unfold vcB; exact decide_eq_false (fun h => h4 h.2.2.2))
    go_enter Tryd.func37, Tryd.ntmps37
    go_wp2
    go_ret
    exact ⟨by rw [HB.out]; rfl, rfl⟩
  have HB := hid (show vcB k n t = true from by unfold vcB; exact decide_eq_true ⟨h1, h2, h3, h4⟩)
  go_enter Tryd.func37, Tryd.ntmps37
  go_wp2
  go_ret
  exact ⟨by rw [HB.out]; rfl, rfl⟩

set_option maxRecDepth 100000 in
theorem manifestSize_any (t : Nat) (ht : t ≤ 100000) (w : World) :
    Calls Tryd.prog 54 #[.int .i64 (t : Int)] w fun e w' => e = .returned (.int .i64 ((7 + 32 * (1 + t) : Nat) : Int)) ∧ w = w' := by
  have t1 : IntKind.i64.wrap (1 + (t : Int)) = 1 + (t : Int) := by rw [IntKind.wrap_i64]; omega
  have t2 : IntKind.i64.wrap (32 * (1 + (t : Int))) = 32 * (1 + (t : Int)) := by rw [IntKind.wrap_i64]; omega
  have t3 : IntKind.i64.wrap (7 + 32 * (1 + (t : Int))) = ((7 + 32 * (1 + t) : Nat) : Int) := by rw [IntKind.wrap_i64]; omega
  generalize 7 + 32 * (1 + t) = z at *
  go_enter Tryd.func54, Tryd.ntmps54
  go_wp2
  go_ret
  exact ⟨rfl, rfl⟩

/-- a manifest's cells -/
def mcells (k n t s : Int) (od : List Nat) (v : Value) : List Value := [.int .i64 k, .int .i64 n, .int .i64 t, .int .i64 s] ++ u8s od ++ [v]
theorem mcells_length (k n t s : Int) (od : List Nat) (v : Value) (h : od.length = 32) : (mcells k n t s od v).length = 37 := by simp [mcells, u8s, h]
/-- a block that holds a manifest -/
def ManAt (w : World) (b : Nat) (k n t s : Int) (od : List Nat) (v : Value) : Prop := w.heap[b]? = some (.cells (mcells k n t s od v).toArray 27 (0, 0))
theorem ManAt.c {w : World} {b : Nat} {k n t s : Int} {od : List Nat} {v : Value} (M : ManAt w b k n t s od v) (h : od.length = 32) :
    w.cell? ⟨b, 0, none⟩ = some (.int .i64 k) ∧ w.cell? ⟨b, 1, none⟩ = some (.int .i64 n) ∧ w.cell? ⟨b, 2, none⟩ = some (.int .i64 t) ∧ w.cell? ⟨b, 3, none⟩ = some (.int .i64 s) ∧ w.cell? ⟨b, 36, none⟩ = some v := by
  refine ⟨?_, ?_, ?_, ?_, ?_⟩ <;> rw [cell_of_heap M] <;> simp [mcells, u8s, h]

def vnB (k n t s : Int) : Bool := vcB k n t && decide (0 ≤ s ∧ s ≤ 8192)
set_option maxRecDepth 100000 in
set_option maxHeartbeats 2000000 in
theorem validNumbers_any (k n t s : Int) (od : List Nat) (v : Value) (h : od.length = 32) (w : World) :
    Calls Tryd.prog 52 #[.agg (mcells k n t s od v).toArray] w fun e w' => e = .returned (.bool (vnB k n t s)) ∧ Below w.heap.size w w' := by
  have hM : ManAt (w.alloc (.cells (mcells k n t s od v).toArray 27)) w.heap.size k n t s od v := heap_new _ _
  obtain ⟨c0, c1, c2, c3, -⟩ := hM.c h
  have HB := hid ((Below.refl w.heap.size w).alloc (Nat.le_refl _) (.cells (mcells k n t s od v).toArray 27))
  obtain ⟨w1, hw1⟩ : ∃ w1, w1 = w.alloc (.cells (mcells k n t s od v).toArray 27) := ⟨_, rfl⟩
  rw [← hw1] at c0 c1 c2 c3 HB
  have HV := hid (validCounts_any k n t w1)
  have HE := hid (show vnB k n t s = (vcB k n t && decide (0 ≤ s ∧ s ≤ 8192)) from rfl)
  clear hM h
  go_enter Tryd.func52, Tryd.ntmps52
  go_upto_region 1 with fail
  change Code.wp _ _ _ _ (w.alloc (.cells (mcells k n t s od v).toArray 27))
  rw [← hw1]
  clear hw1
  go_wp2_with fail
  refine HV.out.mono ?_
  rintro e w2 ⟨rfl, rfl⟩
  generalize vcB k n t = b at *
  cases b with
  | false =>
    go_wp2
    go_ret
    exact ⟨by rw [HE.out]; rfl, HB.out⟩
  | true =>
    by_cases h1 : 0 ≤ s
    case neg =>
      have HE2 := hid (show vnB k n t s = false from by rw [HE.out, decide_eq_false (fun h => h1 h.1)]; rfl)
      go_wp2
      go_ret
      exact ⟨by rw [HE2.out]; rfl, HB.out⟩
    by_cases h2 : s ≤ 8192
    case neg =>
      have HE2 := hid (show vnB k n t s = false from by rw [HE.out, decide_eq_false (fun h => h2 h.2)]; rfl)
      go_wp2
      go_ret
      exact ⟨by rw [HE2.out]; show Ending.returned (.bool (decide (s ≤ 8192))) = _; simp [h2], HB.out⟩
    have HE2 := hid (show vnB k n t s = true from by rw [HE.out, decide_eq_true ⟨h1, h2⟩]; rfl)
    go_wp2
    go_ret
    exact ⟨by rw [HE2.out]; first | rfl | (show Ending.returned (.bool (decide (s ≤ 8192))) = _; simp [h2]), HB.out⟩

/-- is a manifest with so many digests valid -/
def manB (k n t s : Int) (m : Nat) : Bool := vnB k n t s && decide ((m : Int) = t)
def manE (k n t s : Int) (m : Nat) : Int := if manB k n t s m = true then 0 else 2
set_option maxRecDepth 100000 in
set_option maxHeartbeats 2000000 in
theorem CheckManifest_any (k n t s : Int) (od : List Nat) (a : Option Addr) (m c : Nat) (h : od.length = 32) (w : World) :
    Calls Tryd.prog 30 #[.agg (mcells k n t s od (.slice a m c)).toArray] w fun e w' => e = .returned (.int .i64 (manE k n t s m)) ∧ Below w.heap.size w w' := by
  have hM : ManAt (w.alloc (.cells (mcells k n t s od (.slice a m c)).toArray 27)) w.heap.size k n t s od (.slice a m c) := heap_new _ _
  have HM := hid hM
  obtain ⟨c0, c1, c2, c3, c36⟩ := hM.c h
  have HB := hid ((Below.refl w.heap.size w).alloc (Nat.le_refl _) (.cells (mcells k n t s od (.slice a m c)).toArray 27))
  have HIF := hid (show (Tryd.prog.info? 27).map (·.size) = some (mcells k n t s od (.slice a m c)).length from by rw [mcells_length _ _ _ _ _ _ h]; kernel_rfl)
  have HV := hid (fun w => validNumbers_any k n t s od (.slice a m c) h w)
  obtain ⟨w1, hw1⟩ : ∃ w1, w1 = w.alloc (.cells (mcells k n t s od (.slice a m c)).toArray 27) := ⟨_, rfl⟩
  rw [← hw1] at c2 c36 HB HM
  have HRA := hid (show w1.rangeAt w.heap.size 0 (mcells k n t s od (.slice a m c)) from fun j v hj => by
    rw [Nat.zero_add, cell_of_heap HM.out, List.getElem?_toArray]
    exact hj)
  have hs1 : w.heap.size < w1.heap.size := by rw [hw1]; simp
  have HE1 := hid (show vnB k n t s = false → manE k n t s m = 2 from fun e => by unfold manE manB; rw [e]; rfl)
  have HE2 := hid (show vnB k n t s = true → (m : Int) ≠ t → manE k n t s m = 2 from fun e e2 => by unfold manE manB; rw [e, decide_eq_false e2]; rfl)
  have HE3 := hid (show vnB k n t s = true → (m : Int) = t → manE k n t s m = 0 from fun e e2 => by unfold manE manB; rw [e, decide_eq_true e2]; rfl)
  clear hM c0 c1 c3 h
  go_enter Tryd.func30, Tryd.ntmps30
  go_upto_region 1 with fail
  change Code.wp _ _ _ _ (w.alloc (.cells (mcells k n t s od (.slice a m c)).toArray 27))
  rw [← hw1]
  clear hw1
  go_wp2_with (refine wpList_load_mid (by rfl) 27 (.tmp 1) (by rfl) w.heap.size 0 (by rfl) (mcells k n t s od (.slice a m c)) _ HRA.out Tryd.underlying27 rfl HIF.out ?_)
  refine (HV.out w1).mono ?_
  rintro e w2 ⟨rfl, hb2⟩
  have d2 := (hb2.cell (p := ⟨w.heap.size, 2, none⟩) hs1).trans c2
  have d36 := (hb2.cell (p := ⟨w.heap.size, 36, none⟩) hs1).trans c36
  have HB2 := hid (HB.out.trans (hb2.mono (by omega)))
  clear hb2 c2 c36
  generalize vnB k n t s = b at *
  cases b with
  | false =>
    have h1 := HE1.out rfl
    have HE := hid h1
    clear h1 HE1 HE2 HE3
    go_wp2
    go_ret
    exact ⟨by rw [HE.out]; rfl, HB2.out⟩
  | true =>
    by_cases hm : (m : Int) = t
    · have h1 := HE3.out rfl hm
      have HE := hid h1
      clear h1 HE1 HE2 HE3
      subst hm
      go_wp2
      go_ret
      exact ⟨by rw [HE.out]; rfl, HB2.out⟩
    · have h1 := HE2.out rfl hm
      have HE := hid h1
      clear h1 HE1 HE2 HE3
      go_wp2
      go_ret
      exact ⟨by rw [HE.out]; rfl, HB2.out⟩
end Go.Proofs.YtafkjfpmjhfofaaDoor
