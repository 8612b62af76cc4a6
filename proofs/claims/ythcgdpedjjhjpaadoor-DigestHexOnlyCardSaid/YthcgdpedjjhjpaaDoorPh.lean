/-
  ParseHex.
-/
import Derived.Test.YthcgdpedjjhjpaaDoorPhM
import Derived.Test.YthcgdpedjjhjpaaDoorSum
import Derived.Deep.DeepCutAuto
import Derived.Lib.Strings
import Derived.Lib.Walk
namespace Go.Proofs.YthcgdpedjjhjpaaDoor
open Go Go.RowKit
set_option linter.unusedVariables false

/-- the bytes of a string as numbers -/
def nums (S : ByteArray) : List Nat := S.data.toList.map UInt8.toNat
theorem nums_length (S : ByteArray) : (nums S).length = S.size := by simp [nums]
theorem nums_getD (S : ByteArray) (i : Nat) (hi : i < S.size) : (nums S).getD i 0 = S[i].toNat := by
  unfold nums
  rw [List.getD_eq_getElem?_getD, List.getElem?_map, List.getElem?_eq_getElem (by simpa using hi)]
  rfl
theorem nums_lt (S : ByteArray) : ∀ x ∈ nums S, x < 256 := fun x hx => by
  obtain ⟨c, _, rfl⟩ := List.mem_map.1 hx
  exact c.toNat_lt
theorem nums_at (S : ByteArray) (i : Nat) : (nums S).getD i 0 < 256 := by
  rw [List.getD_eq_getElem?_getD]
  by_cases h : i < (nums S).length
  · rw [List.getElem?_eq_getElem h]; exact nums_lt S _ (List.getElem_mem _)
  · rw [List.getElem?_eq_none (by omega)]; decide
theorem results_at2 {fn : Func} {p u : Tmp} {ty : TypeId} (h : fn.results = #[.cell p ty, .tmp u]) {tmps : Array Value} {P : Program} {w : World} {ad : Addr} {v x : Value} (hp : tmps.getD p undef = .pointer (some ad)) (hv : (loadVar ty ad).run P w = .ok v w) (hx : tmps.getD u undef = x) :
    (results fn tmps).run P w = .ok (.tuple #[v, x]) w := by
  rw [results_cell_tmp h, hp, hx]
  simp [asAddr, hv, Result.andThen]
set_option maxRecDepth 100000 in
set_option maxHeartbeats 1000000 in
theorem sIB0 (x : Nat) (hx : x < 256) (w : World) :
    Calls Tryd.prog 134 #[.string ⟨#[48, 49, 50, 51, 52, 53, 54, 55, 56, 57, 97, 98, 99, 100, 101, 102]⟩, .int .u8 (x : Int)] w fun e w' => e = .returned (.int .i64 (hvI x)) ∧ w = w' := by
  have H := hid (hv_index x hx)
  go_enter Tryd.func134, Tryd.ntmps134
  go_wp2
  rw [run_callFunc_extern Tryd.func145 (by kernel_rfl) (by kernel_rfl) (by kernel_rfl) (e := Extern.BytealgIndexByte.indexByte) (by kernel_rfl), Lib.run_indexByteString, H.out]
  simp only [Result.andThen]
  rw [Oper.upon_value]
  go_wp2
  go_ret
  exact ⟨rfl, rfl⟩
set_option maxRecDepth 100000 in
theorem sIB (x : Nat) (hx : x < 256) (w : World) :
    Calls Tryd.prog 109 #[.string ⟨#[48, 49, 50, 51, 52, 53, 54, 55, 56, 57, 97, 98, 99, 100, 101, 102]⟩, .int .u8 (x : Int)] w fun e w' => e = .returned (.int .i64 (hvI x)) ∧ w = w' := by
  go_enter Tryd.func109, Tryd.ntmps109
  go_wp2_with fail
  refine (sIB0 x hx w).mono ?_
  rintro e w' ⟨rfl, rfl⟩
  go_wp2
  go_ret
  exact ⟨rfl, rfl⟩

set_option maxRecDepth 100000 in
set_option maxHeartbeats 2000000 in
theorem ParseHex_any (S : ByteArray) (hS : S.size ≤ 100000) (w : World) :
    Calls Tryd.prog 70 #[.string S] w fun e w' => e = .returned (.tuple #[.agg (u8s (phR (nums S)).1).toArray, .int .i64 (phR (nums S)).2]) ∧ Below w.heap.size w w' := by
  have hlen := nums_length S
  have HLEN := hid (fun (_ : Unit) => hlen)
  have HLT := hid (nums_at S)
  obtain ⟨w2, hw2⟩ : ∃ w2, w2 = (w.alloc (.cells (u8s (List.replicate 32 0)).toArray 52)).alloc (.cells (u8s (List.replicate 32 0)).toArray 52) := ⟨_, rfl⟩
  have HB2 := hid (show Below w.heap.size w w2 from by rw [hw2]; exact ((Below.refl _ _).alloc (Nat.le_refl _) _).alloc (by simp) _)
  have HD2 := hid (show OwnD w2 (w.heap.size + 1) (pdL (nums S) 0) from by
    have h5 := heap_new (w.alloc (.cells (u8s (List.replicate 32 0)).toArray 52)) (.cells (u8s (List.replicate 32 0)).toArray 52)
    rw [World.size_alloc] at h5
    rw [hw2, pdL_zero]
    exact h5)
  have HR2 := hid (show OwnD w2 w.heap.size (List.replicate 32 0) from by rw [hw2]; exact heap_alloc (heap_new _ _) _)
  have HIF := hid (fun (l : List Nat) (h : l.length = 32) => (show (Tryd.prog.info? 52).map (·.size) = some (u8s l).toArray.size from by rw [List.size_toArray, show (u8s l).length = 32 from by simp [u8s, h]]; kernel_rfl))
  have HIFL := hid (fun (l : List Nat) (h : l.length = 32) => (show (Tryd.prog.info? 52).map (·.size) = some (u8s l).length from by rw [show (u8s l).length = 32 from by simp [u8s, h]]; kernel_rfl))
  have HOLD := hid (fun (l : List Nat) (h : l.length = 32) => (show (u8s (List.replicate 32 0)).toArray.size = (u8s l).toArray.size from by rw [List.size_toArray, List.size_toArray]; simp [u8s, h]))
  have HONE := hid (fun (l : List Nat) => (show (u8s l).toArray.all (·.oneCell') = true from all_oneCell_toArray (u8s_oneH _)))
  clear hlen
  go_enter Tryd.func70, Tryd.ntmps70
  go_upto_region 2 with fail
  change Code.wp _ _ _ _ ((w.alloc (.cells (u8s (List.replicate 32 0)).toArray 52)).alloc (.cells (u8s (List.replicate 32 0)).toArray 52))
  rw [← hw2]
  clear hw2
  by_cases h1 : S.size < 64
  · have hI : (S.size : Int) < 64 := by omega
    have HE := hid (show phR (nums S) = (List.replicate 32 0, 4) from by unfold phR; rw [HLEN.out (), if_pos h1])
    go_wp2_with (refine wpList_store_row (by rfl) 52 (.tmp 2) (.tmp 10) (by rfl) w.heap.size _ (u8s (List.replicate 32 0)).toArray _ (by rfl) (by rfl) HR2.out (HIF.out _ (List.length_replicate ..)) rfl (HONE.out _) ?_
                 intro w8 hw8 hk8)
    have hres : (loadVar 52 ⟨w.heap.size, 0, none⟩).run Tryd.prog w8 = .ok (.agg (u8s (List.replicate 32 0)).toArray) w8 := run_loadVar_row _ _ 52 52 _ (0, 0) _ hw8 Tryd.underlying52 rfl (HIF.out _ (List.length_replicate ..))
    refine bodyPost_ret (v := .tuple #[.agg (u8s (List.replicate 32 0)).toArray, .int .i64 4]) (results_at2 Tryd.results70 rfl hres rfl) rfl ⟨?_, HB2.out.trans (hk8.below HB2.out.size (Nat.le_refl _))⟩
    rw [HE.out]
  by_cases h2 : 64 < S.size
  · have hI : 64 < (S.size : Int) := by omega
    have HE := hid (show phR (nums S) = (List.replicate 32 0, 3) from by unfold phR; rw [HLEN.out (), if_neg h1, if_pos h2])
    go_wp2_with (refine wpList_store_row (by rfl) 52 (.tmp 2) (.tmp 14) (by rfl) w.heap.size _ (u8s (List.replicate 32 0)).toArray _ (by rfl) (by rfl) HR2.out (HIF.out _ (List.length_replicate ..)) rfl (HONE.out _) ?_
                 intro w8 hw8 hk8)
    have hres : (loadVar 52 ⟨w.heap.size, 0, none⟩).run Tryd.prog w8 = .ok (.agg (u8s (List.replicate 32 0)).toArray) w8 := run_loadVar_row _ _ 52 52 _ (0, 0) _ hw8 Tryd.underlying52 rfl (HIF.out _ (List.length_replicate ..))
    refine bodyPost_ret (v := .tuple #[.agg (u8s (List.replicate 32 0)).toArray, .int .i64 3]) (results_at2 Tryd.results70 rfl hres rfl) rfl ⟨?_, HB2.out.trans (hk8.below HB2.out.size (Nat.le_refl _))⟩
    rw [HE.out]
  have h64 : S.size = 64 := by omega
  have hI1 : ¬ (S.size : Int) < 64 := by omega
  have hI2 : ¬ 64 < (S.size : Int) := by omega
  have HP := hid (show phR (nums S) = if phOk (nums S) = true then (pdL (nums S) 64, 0) else (List.replicate 32 0, 5) from by unfold phR; rw [HLEN.out (), if_neg h1, if_neg h2])
  have HIX := hid (show ∀ i : Nat, i < 64 → ∀ w, (Instr.index 9 (.string S) (.int .i64 (i : Int))).run Tryd.prog w = .ok (.int .u8 (((nums S).getD i 0 : Nat) : Int)) w from fun i hi w => by
    rw [run_index_string w 9 _ .i64 (i : Int) Tryd.underlying9, dif_pos ⟨by omega, by omega⟩, nums_getD S i (by omega)]
    rfl)
  clear h1 h2
  generalize hs : nums S = s at *
  have HS := hid (fun (_ : Unit) => hs)
  clear hs hI1 hI2
  go_wp2
  go_loopw [17] (fun iv wr => ∃ i : Nat, i ≤ 64 ∧ iv = .int .i64 i ∧ Hid (OwnD wr (w.heap.size + 1) (pdL s i)) ∧ Hid (OwnD wr w.heap.size (List.replicate 32 0)) ∧ Hid (Below w.heap.size w wr) ∧ Hid (∀ t, t < i → hv (s.getD t 0) < 16)) (fun iv _ => 64 - (intOf iv).toNat)
  case atStart => exact ⟨0, by omega, rfl, HD2, HR2, HB2, hid (fun t ht => absurd ht (Nat.not_lt_zero _))⟩
  case round =>
    clear HD2 HR2 HB2
    obtain ⟨i, hi, rfl, HD, HR, HB, HH⟩ := hrel
    by_cases hi64 : i < 64
    · have hI : (i : Int) < 64 := by omega
      have hix := HIX.out i hi64
      have hx := HLT.out i
      have HIB := hid (sIB (s.getD i 0) hx)
      by_cases hv16 : hv (s.getD i 0) < 16
      · have hpx := pdX_or s i HH.out hv16
        have hst := pdL_step s i hi64
        have hc := HD.out
        have HV := hid (show hvI (s.getD i 0) = (hv (s.getD i 0) : Int) from by unfold hvI; rw [if_pos hv16])
        have HH2 := hid (show ∀ t, t < i + 1 → hv (s.getD t 0) < 16 from fun t ht => by
          by_cases e : t = i
          · rw [e]; exact hv16
          · exact HH.out t (by omega))
        obtain ⟨p, hp⟩ : ∃ p, p = i / 2 := ⟨_, rfl⟩
        have c1 : wr.cell? ⟨w.heap.size + 1, p, none⟩ = some (.int .u8 ((pd s i (i / 2) : Nat) : Int)) := by
          rw [cell_of_heap HD.out, List.getElem?_toArray, hp]
          have h9 : i / 2 < 32 := by omega
          have h8 : (pdL s i)[i / 2]? = some (pd s i (i / 2)) := by
            unfold pdL
            rw [List.getElem?_map, List.getElem?_range h9]
            rfl
          unfold u8s
          rw [List.getElem?_map, h8]
          rfl
        have f1 : wr.frozen? ⟨w.heap.size + 1, p, none⟩ = false := free_of_heap HD.out p
        have hpl := pd_lt s i (i / 2) HH.out
        have HST2 := hid (show OwnD (wr.setCell ⟨w.heap.size + 1, p, none⟩ (.int .u8 ((pdX s i : Nat) : Int))) (w.heap.size + 1) (pdL s (i + 1)) from by
          have h1 := heap_set HD.out p (.int .u8 ((pdX s i : Nat) : Int))
          show _ = _
          rw [h1, ← hst, hp]
          simp only [List.setIfInBounds_toArray, u8s, List.map_set]
          rfl)
        have HR3 := hid (show OwnD (wr.setCell ⟨w.heap.size + 1, p, none⟩ (.int .u8 ((pdX s i : Nat) : Int))) w.heap.size (List.replicate 32 0) from (Below.heap_setCell _ _ _ _ (show w.heap.size ≠ w.heap.size + 1 by omega)).trans HR.out)
        have HB3 := hid (show Below w.heap.size w (wr.setCell ⟨w.heap.size + 1, p, none⟩ (.int .u8 ((pdX s i : Nat) : Int))) from HB.out.setCell (by simp) _)
        have k1 : (i : Int) / 2 = (p : Int) := by omega
        have k2 : (i : Int).tdiv 2 = (p : Int) := by rw [Int.tdiv_eq_ediv_of_nonneg (by omega)]; omega
        have k3 : (p : Int) < 32 := by omega
        have k4 : p < 32 := by omega
        have HPX := hid hpx
        clear hst hc hpx hp
        generalize pd s i (i / 2) = y at *
        generalize hv (s.getD i 0) = v at *
        generalize pdX s i = z at *
        generalize s.getD i 0 = x at *
        obtain ⟨ys, hys⟩ : ∃ ys, ys = y * 16 % 256 := ⟨_, rfl⟩
        have j1 : IntKind.u8.wrap ((y : Int) * 16) = (ys : Int) := by rw [IntKind.wrap_u8]; omega
        have j2 : IntKind.u8.wrap (v : Int) = (v : Int) := by rw [IntKind.wrap_u8]; omega
        have hysl : ys < 256 := by omega
        have j3 : bits .or .u8 (ys : Int) (v : Int) = (z : Int) := by
          have h := u8_or_nat ys v hysl (by omega)
          have e := HPX.out.1
          rw [← hys] at e
          rw [e] at h
          exact h
        have hzl := HPX.out.2
        clear hys
        go_wp2_with fail
        refine (HIB.out _).mono ?_
        rw [HV.out]
        rintro e w5 ⟨rfl, rfl⟩
        clear HIB
        go_wp2
        exact ⟨⟨i + 1, by omega, by go_num, HST2, HR3, HB3, HH2⟩, by simp [intOf]; omega⟩
      · have HV := hid (show hvI (s.getD i 0) = -1 from by unfold hvI; rw [if_neg hv16])
        have HE := hid (show phR s = (List.replicate 32 0, 5) from by
          rw [HP.out, if_neg (fun h => hv16 ((phOk_iff s).1 h i hi64))])
        generalize s.getD i 0 = x at *
        go_wp2_with fail
        refine (HIB.out _).mono ?_
        rw [HV.out]
        rintro e w5 ⟨rfl, rfl⟩
        clear HIB
        go_wp2_with (refine wpList_store_row (by rfl) 52 (.tmp 2) (.tmp 26) (by rfl) w.heap.size _ (u8s (List.replicate 32 0)).toArray _ (by rfl) (by rfl) HR.out (HIF.out _ (List.length_replicate ..)) rfl (HONE.out _) ?_
                     intro w8 hw8 hk8)
        have hres : (loadVar 52 ⟨w.heap.size, 0, none⟩).run Tryd.prog w8 = .ok (.agg (u8s (List.replicate 32 0)).toArray) w8 := run_loadVar_row _ _ 52 52 _ (0, 0) _ hw8 Tryd.underlying52 rfl (HIF.out _ (List.length_replicate ..))
        refine bodyPost_ret (v := .tuple #[.agg (u8s (List.replicate 32 0)).toArray, .int .i64 5]) (results_at2 Tryd.results70 rfl hres rfl) rfl ⟨?_, HB.out.trans (hk8.below HB.out.size (Nat.le_refl _))⟩
        rw [HS.out (), HE.out]
    · obtain rfl : i = 64 := by omega
      have HE := hid (show phR s = (pdL s 64, 0) from by rw [HP.out, if_pos ((phOk_iff s).2 HH.out)])
      have hpl := pdL_length s 64
      have HRA := hid (show wr.rangeAt (w.heap.size + 1) 0 (u8s (pdL s 64)) from fun j v hj => by
        rw [Nat.zero_add, cell_of_heap HD.out, List.getElem?_toArray]
        exact hj)
      generalize pdL s 64 = D at *
      have hI : ¬ (((64 : Nat) : Int) < 64) := by omega
      go_wp2_with (first
        | (refine wpList_load_mid (by rfl) 52 (.tmp 4) (by rfl) (w.heap.size + 1) 0 (by rfl) (u8s D) _ HRA.out Tryd.underlying52 rfl (HIFL.out D hpl) ?_)
        | (refine wpList_store_row (by rfl) 52 (.tmp 2) (.tmp 39) (by rfl) w.heap.size _ (u8s D).toArray _ (by rfl) (by rfl) HR.out (HIF.out D hpl) (HOLD.out D hpl) (HONE.out D) ?_
           intro w8 hw8 hk8))
      have hres : (loadVar 52 ⟨w.heap.size, 0, none⟩).run Tryd.prog w8 = .ok (.agg (u8s D).toArray) w8 := run_loadVar_row _ _ 52 52 _ (0, 0) _ hw8 Tryd.underlying52 rfl (HIF.out D hpl)
      refine bodyPost_ret (v := .tuple #[.agg (u8s D).toArray, .int .i64 0]) (results_at2 Tryd.results70 rfl hres rfl) rfl ⟨?_, HB.out.trans (hk8.below HB.out.size (Nat.le_refl _))⟩
      rw [HS.out (), HE.out]
end Go.Proofs.YthcgdpedjjhjpaaDoor
