/-
  pad: the last chunk completed. · Sum: the digest of the message so far. · NewHash, SHA256. · Values: SHA-256 of abc, its constants. · What the condition of a row of chapter 2 gives: the two listed variables. · Manifests: validCounts, manifestSize, validNumbers, CheckManifest. · More: a made row with room, and appending bytes to a row of one's own. · Writer: NewWriter, fits.
-/
import Derived.Test.YtehjikogdaclgaaDoorBb5
import Derived.Test.YtehjikogdaclgaaDoorRows
import Derived.Test.YtehjikogdaclgaaDoorBb1
import Derived.WalkKit
import Derived.ProofKit
import Derived.LaidMore
import Derived.OpenShut
import Derived.Stop.Joined
import Derived.Stop.LaidErr
import Derived.Lib.LaidTab
import Derived.Test.YtehjikogdaclgaaDoorBb2
import Derived.Deep.DeepCutAuto
import Derived.Test.YtehjikogdaclgaaDoorBb3
import Derived.Deep.RegionHeld3
import Derived.Deep.AppendLies
import Derived.BigQuiet
namespace Go.Proofs.YtehjikogdaclgaaDoor
open Go Go.RowKit
set_option linter.unusedVariables false

/-- how many bytes go before the length -/
def padB (sz : Nat) : Nat := 64 - (sz + 8) % 64
/-- a byte of the padding, of which i bytes of the length are there -/
def padF (sz i j : Nat) : Nat := if j = 0 then 128 else if padB sz ≤ j ∧ j < padB sz + i then (sz * 8 / 2 ^ (56 - 8 * (j - padB sz))) % 256 else 0
def endL (sz i : Nat) : List Nat := (List.range 72).map (padF sz i)
def padL (sz : Nat) : List Nat := (List.range (padB sz + 8)).map (padF sz 8)
theorem padB_le (sz : Nat) : 1 ≤ padB sz ∧ padB sz ≤ 64 := by unfold padB; omega
theorem padF_lt (sz i j : Nat) : padF sz i j < 256 := by
  unfold padF
  split
  · omega
  · split
    · exact Nat.mod_lt _ (by decide)
    · omega
theorem endL_getD (sz i j : Nat) (hj : j < 72) : (endL sz i).getD j 0 = padF sz i j := by
  unfold endL
  rw [List.getD_eq_getElem?_getD, List.getElem?_map, List.getElem?_range hj]
  rfl
theorem endL_length (sz i : Nat) : (endL sz i).length = 72 := by simp [endL]
theorem endL_step (sz i : Nat) (hi : i < 8) : (endL sz i).set (padB sz + i) ((sz * 8 / 2 ^ (56 - 8 * i)) % 256) = endL sz (i + 1) := by
  have hb := padB_le sz
  refine getD_ext2 (by rw [List.length_set, endL_length, endL_length]) fun j hj => ?_
  rw [List.length_set, endL_length] at hj
  rw [set_getD2 _ _ _ _ (by rw [endL_length]; omega), endL_getD _ _ _ hj, endL_getD _ _ _ hj]
  unfold padF
  by_cases e : j = padB sz + i
  · rw [if_pos e, if_neg (by omega), if_pos (by omega), e, Nat.add_sub_cancel_left]
  · rw [if_neg e]
    by_cases h0 : j = 0
    · rw [if_pos h0, if_pos h0]
    · rw [if_neg h0, if_neg h0]
      by_cases h1 : padB sz ≤ j ∧ j < padB sz + i
      · rw [if_pos h1, if_pos (by omega)]
      · rw [if_neg h1, if_neg (by omega)]
theorem endL_pad (sz : Nat) : (endL sz 8).take (padB sz + 8) = padL sz := by
  have hb := padB_le sz
  unfold endL padL
  rw [← List.map_take, List.take_range, Nat.min_eq_left (by omega)]
theorem padL_length (sz : Nat) : (padL sz).length = padB sz + 8 := by simp [padL]
theorem endL_zero (sz : Nat) : endL sz 0 = (List.replicate 72 0).set 0 128 := by
  refine getD_ext2 (by rw [List.length_set, endL_length, List.length_replicate]) fun j hj => ?_
  rw [endL_length] at hj
  rw [endL_getD _ _ _ hj, set_getD2 _ _ _ _ (by simp), zeros_getD]
  unfold padF
  by_cases e : j = 0
  · rw [if_pos e, if_pos e]
  · rw [if_neg e, if_neg e, if_neg (by omega)]
/-- the 72 bytes -/
def Own9 (w : World) (b : Nat) (l : List Nat) : Prop := w.heap[b]? = some (.cells (u8s l).toArray 130 (0, 0))
theorem Own9.free {w : World} {b : Nat} {l : List Nat} (h : Own9 w b l) (i : Nat) : w.frozen? ⟨b, i, none⟩ = false := free_of_heap h i
theorem Own9.cell {w : World} {b : Nat} {l : List Nat} (h : Own9 w b l) (i : Nat) (hi : i < l.length) : w.cell? ⟨b, i, none⟩ = some (.int .u8 ((l.getD i 0 : Nat) : Int)) := by
  rw [cell_of_heap h]
  simp [u8s, List.getElem?_eq_getElem hi]
theorem Own9.set {w : World} {b : Nat} {l : List Nat} (h : Own9 w b l) (i n : Nat) : Own9 (w.setCell ⟨b, i, none⟩ (.int .u8 ((n : Nat) : Int))) b (l.set i n) := by
  have h1 := heap_set h i (.int .u8 n)
  show _ = _
  rw [h1]
  simp [u8s, List.map_set]
theorem zero9 : Tryd.zeroCells130 = (u8s (List.replicate 72 0)).toArray := by kernel_rfl
theorem end_slice (b k : Nat) (hk : k ≤ 72) (w : World) : (Instr.sliceAt 130 (.pointer (some ⟨b, 0, none⟩)) none (some (.int .i64 (k : Int))) none).run Tryd.prog w = .ok (.slice (some ⟨b, 0, none⟩) k 72) w := by
  have u1 : (k : Int) ≤ 72 := by omega
  simp [go_sem, Instr.sliceAt, Instr.slice, run_underlying Tryd.underlying130, u1]

set_option maxRecDepth 100000 in
set_option maxHeartbeats 4000000 in
theorem pad_any (hb : Nat) (KC SH m : List Nat) (w : World) (M : MsgAt w hb KC SH m) (V : Vars w KC SH) (h3 : 3 ≤ hb) (hsz : m.length ≤ 900000000) :
    Calls Tryd.prog 63 #[.pointer (some ⟨hb, 0, none⟩)] w fun e w' => e = .returned (.tuple #[]) ∧ MsgAt w' hb KC SH (m ++ padL m.length) ∧ Kept hb w w' := by
  obtain ⟨h, ch, H, e1, e2⟩ := M
  have c72 := H.size_
  have hlt := H.lt
  have HM := hid (show MsgAt w hb KC SH m from ⟨h, ch, H, e1, e2⟩)
  have HV := hid V
  obtain ⟨sz, hs⟩ : ∃ sz, sz = m.length := ⟨_, rfl⟩
  rw [← hs] at c72 hsz
  have hbb := padB_le sz
  obtain ⟨bf, hbf⟩ : ∃ bf, bf = padB sz := ⟨_, rfl⟩
  have hB := hid hbf
  have hr1 : ((sz : Int) + 8).tmod 64 = (((sz + 8) % 64 : Nat) : Int) := by rw [Int.tmod_eq_emod_of_nonneg (by omega)]; omega
  obtain ⟨rm, hrm⟩ : ∃ rm, rm = (sz + 8) % 64 := ⟨_, rfl⟩
  rw [← hrm] at hr1
  have w1 : IntKind.i64.wrap ((sz : Int) + 8) = (sz : Int) + 8 := by rw [IntKind.wrap_i64]; omega
  have w2 : IntKind.i64.wrap (rm : Int) = (rm : Int) := by rw [IntKind.wrap_i64]; omega
  have w3 : IntKind.i64.wrap (64 - (rm : Int)) = (bf : Int) := by rw [IntKind.wrap_i64, hbf]; unfold padB; omega
  have w4 : 64 - (rm : Int) = (bf : Int) := by rw [hbf]; unfold padB; omega
  have w5 : IntKind.u64.wrap (sz : Int) = (sz : Int) := by rw [IntKind.wrap_u64]; omega
  have HS := hid hs
  clear V H e1 e2 hbf hrm hs
  go_enter Tryd.func63, Tryd.ntmps63
  go_wp2
  obtain ⟨w1', hw1'⟩ : ∃ w1', w1' = w.alloc (.cells (Tryd.zeroCells130.setIfInBounds 0 (.int .u8 128)) 130) := ⟨_, rfl⟩
  rw [← hw1']
  have HO := hid (show Own9 w1' w.heap.size (endL sz 0) from by
    rw [hw1', endL_zero, zero9]
    have h5 := heap_new w (.cells ((u8s (List.replicate 72 0)).toArray.setIfInBounds 0 (.int .u8 128)) 130)
    rw [List.setIfInBounds_toArray] at h5 ⊢
    show _ = _
    rw [h5]
    simp [u8s])
  have HBL := hid (show Below w.heap.size w w1' from by rw [hw1']; exact (Below.refl _ _).alloc (Nat.le_refl _) _)
  clear hw1' c72
  go_loopw [20] (fun iv wr => ∃ i : Nat, i ≤ 8 ∧ iv = .int .i64 i ∧ Hid (Own9 wr w.heap.size (endL sz i)) ∧ Hid (Below w.heap.size w wr)) (fun iv _ => 8 - (intOf iv).toNat)
  case atStart => exact ⟨0, by omega, rfl, HO, HBL⟩
  case round =>
    clear HO HBL
    obtain ⟨i, hi, rfl, HO, HBL⟩ := hrel
    by_cases hi8 : i < 8
    · have hI : (i : Int) < 8 := by omega
      have hpb := hB.out
      obtain ⟨p, hp⟩ : ∃ p, p = bf + i := ⟨_, rfl⟩
      obtain ⟨sh, hsh⟩ : ∃ sh, sh = 56 - 8 * i := ⟨_, rfl⟩
      have p1 : p < 72 := by omega
      have p2 : (p : Int) < 72 := by omega
      have p3 : IntKind.i64.wrap ((bf : Int) + (i : Int)) = (p : Int) := by rw [IntKind.wrap_i64]; omega
      have p4 : (bf : Int) + (i : Int) = (p : Int) := by omega
      have p5 : IntKind.i64.wrap (p : Int) = (p : Int) := by rw [IntKind.wrap_i64]; omega
      have s1 : IntKind.i64.wrap (56 - 8 * (i : Int)) = (sh : Int) := by rw [IntKind.wrap_i64]; omega
      have s2 : 56 - 8 * (i : Int) = (sh : Int) := by omega
      have s3 : IntKind.i64.wrap (8 * (i : Int)) = 8 * (i : Int) := by rw [IntKind.wrap_i64]; omega
      have s4 : IntKind.i64.wrap (sh : Int) = (sh : Int) := by rw [IntKind.wrap_i64]; omega
      have c1 := HO.out.cell p (by rw [endL_length]; exact p1)
      have f1 := HO.out.free p
      have hst := HO.out.set p ((sz * 8 / 2 ^ sh) % 256)
      rw [hp, hpb, hsh, endL_step sz i hi8, ← hpb, ← hp, ← hsh] at hst
      have HST := hid hst
      have HB2 := hid (HBL.out.setCell (p := ⟨w.heap.size, p, none⟩) (Nat.le_refl _) (.int .u8 (((sz * 8 / 2 ^ sh) % 256 : Nat) : Int)))
      clear hst hp hsh hpb
      generalize (endL sz i).getD p 0 = z at *
      have hcast : (sz : Int) * 8 / 2 ^ sh % 256 = (((sz * 8 / 2 ^ sh) % 256 : Nat) : Int) := by simp
      have HCAST := hid (fun (_ : Unit) => hcast)
      clear hcast
      go_wp2
      rw [HCAST.out ()]
      exact ⟨⟨i + 1, by omega, by go_num, HST, HB2⟩, by simp [intOf]; omega⟩
    · have h8 : i = 8 := by omega
      have hI : ¬ ((i : Int) < 8) := by omega
      obtain ⟨p, hp⟩ : ∃ p, p = bf + 8 := ⟨_, rfl⟩
      have p1 : p ≤ 72 := by omega
      have p3 : IntKind.i64.wrap ((bf : Int) + 8) = (p : Int) := by rw [IntKind.wrap_i64]; omega
      have p4 : (bf : Int) + 8 = (p : Int) := by omega
      have p5 : IntKind.i64.wrap (p : Int) = (p : Int) := by rw [IntKind.wrap_i64]; omega
      have hes := end_slice w.heap.size p p1
      have hbs : Bs wr (.slice (some ⟨w.heap.size, 0, none⟩) p 72) (padL sz) := by
        have h5 : ∀ j, j < p → wr.cell? ⟨w.heap.size, j, none⟩ = some (.int .u8 (((padL sz).getD j 0 : Nat) : Int)) := fun j hj => by
          rw [HO.out.cell j (by rw [endL_length]; omega), h8, ← endL_pad, List.getD_eq_getElem?_getD, List.getD_eq_getElem?_getD, List.getElem?_take_of_lt (by rw [← hB.out, ← hp]; exact hj)]
        refine ⟨_, 72, by rw [padL_length, ← hB.out, hp], fun x hx => ?_, fun _ => ⟨w.heap.size, 0, rfl, fun j hj => by rw [Nat.zero_add]; exact h5 j (by rw [padL_length, ← hB.out, ← hp] at hj; exact hj)⟩⟩
        unfold padL at hx
        obtain ⟨j, _, rfl⟩ := List.mem_map.1 hx
        exact padF_lt _ _ _
      have HBS := hid hbs
      have HMW := hid (HM.out.same (HBL.out.block hb hlt))
      have HVW := hid (HV.out.below HBL.out)
      have HK := hid (Kept.of_below (b := hb) HBL.out)
      have hsz2 := HS.out
      clear hbs hp h8
      go_wp2_with fail
      refine (Write_any hb p 72 (some ⟨w.heap.size, 0, none⟩) KC SH m (padL sz) wr HMW.out HVW.out h3 HBS.out p1 (by show w.heap.size ≠ hb; omega) (by omega)).mono ?_
      rintro e9 w9 ⟨rfl, hM9, hk9⟩
      rw [hsz2] at hM9
      have HK9 := hid (HK.out.trans hk9)
      have HM9 := hid hM9
      clear hM9 hk9
      go_wp2
      go_end0
      exact ⟨rfl, HM9.out, HK9.out⟩
end Go.Proofs.YtehjikogdaclgaaDoor

namespace Go.Proofs.YtehjikogdaclgaaDoor
open Go Go.RowKit
set_option linter.unusedVariables false

/-- the bytes of a state, i words and j bytes of the next one -/
def digF (h : List Nat) (p : Nat) : Nat := (h.getD (p / 4) 0 / 2 ^ (24 - 8 * (p % 4))) % 256
def digTo (h : List Nat) (k : Nat) : List Nat := (List.range 32).map fun p => if p < k then digF h p else 0
def digL (h : List Nat) : List Nat := (List.range 32).map (digF h)
/-- the digest of a message -/
def dig (KC SH m : List Nat) : List Nat := digL (hsK (fun i => KC.getD i 0) SH (m ++ padL m.length) ((m ++ padL m.length).length / 64))
theorem digTo_length (h : List Nat) (k : Nat) : (digTo h k).length = 32 := by simp [digTo]
theorem digTo_getD (h : List Nat) (k j : Nat) (hj : j < 32) : (digTo h k).getD j 0 = if j < k then digF h j else 0 := by
  unfold digTo
  rw [List.getD_eq_getElem?_getD, List.getElem?_map, List.getElem?_range hj]
  rfl
theorem digTo_step (h : List Nat) (k : Nat) (hk : k < 32) : (digTo h k).set k (digF h k) = digTo h (k + 1) := by
  refine getD_ext2 (by rw [List.length_set, digTo_length, digTo_length]) fun j hj => ?_
  rw [List.length_set, digTo_length] at hj
  rw [set_getD2 _ _ _ _ (by rw [digTo_length]; exact hk), digTo_getD _ _ _ hj, digTo_getD _ _ _ hj]
  by_cases e : j = k
  · rw [if_pos e, if_pos (by omega), e]
  · rw [if_neg e]
    by_cases h2 : j < k
    · rw [if_pos h2, if_pos (by omega)]
    · rw [if_neg h2, if_neg (by omega)]
theorem digTo_all (h : List Nat) : digTo h 32 = digL h := by
  unfold digTo digL
  apply List.map_congr_left
  intro j hj
  rw [if_pos (List.mem_range.1 hj)]
theorem digTo_zero (h : List Nat) : digTo h 0 = List.replicate 32 0 := by
  refine getD_ext2 (by rw [digTo_length, List.length_replicate]) fun j hj => ?_
  rw [digTo_length] at hj
  rw [digTo_getD _ _ _ hj, zeros_getD, if_neg (by omega)]
theorem digL_length (h : List Nat) : (digL h).length = 32 := by simp [digL]
/-- a digest in memory -/
def OwnD (w : World) (b : Nat) (l : List Nat) : Prop := w.heap[b]? = some (.cells (u8s l).toArray 24 (0, 0))

set_option maxRecDepth 100000 in
set_option maxHeartbeats 4000000 in
theorem Sum_any (hb : Nat) (KC SH m : List Nat) (w : World) (M : MsgAt w hb KC SH m) (V : Vars w KC SH) (h3 : 3 ≤ hb) (hsz : m.length ≤ 900000000) :
    Calls Tryd.prog 38 #[.pointer (some ⟨hb, 0, none⟩)] w fun e w' => e = .returned (.agg (u8s (dig KC SH m)).toArray) ∧ Below w.heap.size w w' := by
  obtain ⟨h, ch, H, e1, e2⟩ := M
  have hlt := H.lt
  have HH := hid H
  have HV := hid V
  have HE1 := hid (fun (_ : Unit) => e1)
  have HE2 := hid e2
  clear H V e1 e2
  have hcl : (hcells h ch m.length).length = 73 := by simp [hcells, u32s_length, u8s, HH.out.hl, HH.out.cl]
  have HRA := hid (show (w.alloc (.cells (u8s (List.replicate 32 0)).toArray 24)).rangeAt hb 0 (hcells h ch m.length) from fun j v hj => by
    rw [Nat.zero_add, cell_of_heap (heap_alloc HH.out.at_ _), List.getElem?_toArray]
    exact hj)
  have HNW := hid (show ∀ O, ((w.alloc (.cells (u8s (List.replicate 32 0)).toArray 24)).alloc O).heap[w.heap.size + 1]? = some O from fun O => by
    have h5 := heap_new (w.alloc (.cells (u8s (List.replicate 32 0)).toArray 24)) O
    rwa [World.size_alloc] at h5)
  have HIF := hid (show (Tryd.prog.info? 112).map (·.size) = some (hcells h ch m.length).length from by rw [hcl]; kernel_rfl)
  have HIF2 := hid (show (Tryd.prog.info? 112).map (·.size) = some (hcells h ch m.length).toArray.size from by rw [List.size_toArray, hcl]; kernel_rfl)
  have HC73 := hid (show (hcells h ch m.length).toArray.size = 73 from by rw [List.size_toArray, hcl])
  have HONE := hid (show (hcells h ch m.length).toArray.all (·.oneCell') = true from all_oneCell_toArray fun v hv => by
    unfold hcells at hv
    rcases List.mem_append.1 hv with h1 | h1
    · unfold u32s at h1
      obtain ⟨y, _, rfl⟩ := List.mem_map.1 h1
      rfl
    · rcases List.mem_append.1 h1 with h2 | h2
      · exact u8s_oneH _ v h2
      · rw [List.mem_singleton.1 h2]; rfl)
  clear hcl
  go_enter Tryd.func38, Tryd.ntmps38
  go_wp2_with (first
    | (refine wpList_load_mid (by rfl) 112 (.tmp 12) (by rfl) hb 0 (by rfl) (hcells h ch m.length) _ HRA.out Tryd.underlying112 rfl HIF.out ?_)
    | (refine wpList_store_row (by rfl) 112 (.tmp 3) (.tmp 13) (by rfl) (w.heap.size + 1) _ (hcells h ch m.length).toArray _ (by rfl) (by rfl) (HNW.out _) HIF2.out (by rw [HC73.out]; kernel_rfl) HONE.out ?_
       intro w5 hw5 hk5))
  have hkw : Below w.heap.size w w5 := (((Below.refl w.heap.size w).alloc (Nat.le_refl _) (.cells (u8s (List.replicate 32 0)).toArray 24)).alloc (by simp) _).trans (hk5.below (by simp; omega) (by omega))
  have H5 : HashAt w5 (w.heap.size + 1) h ch m.length := ⟨hw5, HH.out.hl, HH.out.cl, HH.out.ho, HH.out.co⟩
  have HR5 := hid ((hk5.block w.heap.size (by simp; omega) (by omega)).trans (heap_alloc (heap_new w (.cells (u8s (List.replicate 32 0)).toArray 24)) _))
  have M5 : MsgAt w5 (w.heap.size + 1) KC SH m := ⟨h, ch, H5, HE1.out (), HE2.out⟩
  have V5 := HV.out.below hkw
  have HKW := hid hkw
  have HM5 := hid M5
  have HV5 := hid V5
  have hs5 := hkw.size
  have hlt5 := lt_of_heap hw5
  clear hw5 hk5 hkw H5 M5 V5 HRA HNW HIF HIF2 HC73 HONE
  refine (pad_any (w.heap.size + 1) KC SH m w5 HM5.out HV5.out (by have := HV.out.lt; omega) hsz).mono ?_
  rintro e9 w6 ⟨rfl, hM6, hk6⟩
  obtain ⟨mp, hmp⟩ : ∃ mp, mp = m ++ padL m.length := ⟨_, rfl⟩
  rw [← hmp] at hM6
  obtain ⟨h6, ch6, H6, e6, _⟩ := hM6
  have hdig := hid (fun (_ : Unit) => (show dig KC SH m = digL h6 from by unfold dig; rw [← hmp, ← e6]))
  have HH6 := hid H6
  have HR6 := hid ((hk6.block w.heap.size (by omega) (by omega)).trans HR5.out)
  have HB6 := hid (HKW.out.trans (hk6.below hs5 (by omega)))
  have hs6 := HB6.out.size
  have hl6 := H6.lt
  have g0 := H6.word 0 (by omega)
  have g1 := H6.word 1 (by omega)
  have g2 := H6.word 2 (by omega)
  have g3 := H6.word 3 (by omega)
  have g4 := H6.word 4 (by omega)
  have g5 := H6.word 5 (by omega)
  have g6 := H6.word 6 (by omega)
  have g7 := H6.word 7 (by omega)
  have HSC := hid (show ∀ j, j < 8 → [((h6.getD 0 0 : Nat) : Int), (h6.getD 1 0 : Nat), (h6.getD 2 0 : Nat), (h6.getD 3 0 : Nat), (h6.getD 4 0 : Nat), (h6.getD 5 0 : Nat), (h6.getD 6 0 : Nat), (h6.getD 7 0 : Nat)].getD j 0 = ((h6.getD j 0 : Nat) : Int) from fun j hj => by
    have h : j = 0 ∨ j = 1 ∨ j = 2 ∨ j = 3 ∨ j = 4 ∨ j = 5 ∨ j = 6 ∨ j = 7 := by omega
    rcases h with rfl | rfl | rfl | rfl | rfl | rfl | rfl | rfl <;> rfl)
  have HW8 := hid H6.ho
  clear hmp H6 e6 hk6
  generalize hx0 : h6.getD 0 0 = x0 at *
  generalize hx1 : h6.getD 1 0 = x1 at *
  generalize hx2 : h6.getD 2 0 = x2 at *
  generalize hx3 : h6.getD 3 0 = x3 at *
  generalize hx4 : h6.getD 4 0 = x4 at *
  generalize hx5 : h6.getD 5 0 = x5 at *
  generalize hx6 : h6.getD 6 0 = x6 at *
  generalize hx7 : h6.getD 7 0 = x7 at *
  clear hx0 hx1 hx2 hx3 hx4 hx5 hx6 hx7
  have HD := hid (show OwnD (w6.alloc (.cells (u8s (List.replicate 32 0)).toArray 24)) w6.heap.size (digTo h6 0) from by rw [digTo_zero]; exact heap_new _ _)
  have HR7 := hid (heap_alloc HR6.out (.cells (u8s (List.replicate 32 0)).toArray 24))
  have HB7 := hid (HB6.out.alloc hs6 (.cells (u8s (List.replicate 32 0)).toArray 24))
  have hne : w.heap.size ≠ w6.heap.size := by omega
  go_wp2
  change Code.wp _ _ _ _ (w6.alloc (.cells (u8s (List.replicate 32 0)).toArray 24))
  obtain ⟨w7, hw7⟩ : ∃ w7, w7 = w6.alloc (.cells (u8s (List.replicate 32 0)).toArray 24) := ⟨_, rfl⟩
  rw [← hw7] at HD HR7 HB7 ⊢
  obtain ⟨db, hdb⟩ : ∃ db, db = w6.heap.size := ⟨_, rfl⟩
  rw [← hdb] at HD hne hs6 ⊢
  clear hw7 g0 g1 g2 g3 g4 g5 g6 g7 hdb HR6
  go_loopw [17] (fun iv wr => ∃ i : Nat, i ≤ 8 ∧ iv = .int .i64 i ∧ Hid (OwnD wr db (digTo h6 (4 * i))) ∧ Hid (OwnD wr w.heap.size (List.replicate 32 0)) ∧ Hid (Below w.heap.size w wr)) (fun iv _ => 8 - (intOf iv).toNat)
  case atStart => exact ⟨0, by omega, rfl, HD, HR7, HB7⟩
  case round =>
    clear HD HR7 HB7
    obtain ⟨i, hi, rfl, HD, HR7, HB7⟩ := hrel
    by_cases hi8 : i < 8
    · have hI : (i : Int) < 8 := by omega
      have hidx := fun w' => idx8 (x0 : Int) x1 x2 x3 x4 x5 x6 x7 i hi8 w'
      rw [HSC.out i hi8] at hidx
      have HXV := hid (fun (_ : Unit) => (rfl : h6.getD i 0 = h6.getD i 0))
      have hxl := HW8.out i
      obtain ⟨x, hx⟩ : ∃ x, x = h6.getD i 0 := ⟨_, rfl⟩
      rw [← hx] at hidx hxl
      have HX := hid (fun (_ : Unit) => hx)
      clear hx HXV
      go_wp2
      go_loopw [21] (fun jv wr => ∃ j : Nat, j ≤ 4 ∧ jv = .int .i64 j ∧ Hid (OwnD wr db (digTo h6 (4 * i + j))) ∧ Hid (OwnD wr w.heap.size (List.replicate 32 0)) ∧ Hid (Below w.heap.size w wr)) (fun jv _ => 4 - (intOf jv).toNat)
      case atStart => exact ⟨0, by omega, rfl, HD, HR7, HB7⟩
      case round =>
        clear HD HR7 HB7
        obtain ⟨j, hj, rfl, HD, HR7, HB7⟩ := hrel
        by_cases hj4 : j < 4
        · have hJ : (j : Int) < 4 := by omega
          obtain ⟨p, hp⟩ : ∃ p, p = 4 * i + j := ⟨_, rfl⟩
          obtain ⟨sh, hsh⟩ : ∃ sh, sh = 24 - 8 * j := ⟨_, rfl⟩
          have p1 : p < 32 := by omega
          have p2 : (p : Int) < 32 := by omega
          have p3 : IntKind.i64.wrap (4 * (i : Int) + (j : Int)) = (p : Int) := by rw [IntKind.wrap_i64]; omega
          have p4 : 4 * (i : Int) + (j : Int) = (p : Int) := by omega
          have p5 : IntKind.i64.wrap (p : Int) = (p : Int) := by rw [IntKind.wrap_i64]; omega
          have p6 : IntKind.i64.wrap (4 * (i : Int)) = 4 * (i : Int) := by rw [IntKind.wrap_i64]; omega
          have s1 : IntKind.i64.wrap (24 - 8 * (j : Int)) = (sh : Int) := by rw [IntKind.wrap_i64]; omega
          have s2 : 24 - 8 * (j : Int) = (sh : Int) := by omega
          have s3 : IntKind.i64.wrap (8 * (j : Int)) = 8 * (j : Int) := by rw [IntKind.wrap_i64]; omega
          have s4 : IntKind.i64.wrap (sh : Int) = (sh : Int) := by rw [IntKind.wrap_i64]; omega
          have hlen := digTo_length h6 p
          have c1 : wr.cell? ⟨db, p, none⟩ = some (.int .u8 (((digTo h6 p).getD p 0 : Nat) : Int)) := by
            have h1 := HD.out
            rw [← hp] at h1
            rw [cell_of_heap h1]
            simp [u8s, List.getElem?_eq_getElem (show p < (digTo h6 p).length by omega)]
          have f1 : wr.frozen? ⟨db, p, none⟩ = false := free_of_heap HD.out p
          have hval : digF h6 p = x / 2 ^ sh % 256 := by unfold digF; rw [HX.out (), show p / 4 = i from by omega, show p % 4 = j from by omega, hsh]
          have hst : OwnD (wr.setCell ⟨db, p, none⟩ (.int .u8 ((digF h6 p : Nat) : Int))) db (digTo h6 (p + 1)) := by
            have h1 := HD.out
            rw [← hp] at h1
            have h2 := heap_set h1 p (.int .u8 ((digF h6 p : Nat) : Int))
            show _ = _
            rw [h2, ← digTo_step h6 p p1]
            simp [u8s, List.map_set]
          have hcast : (x : Int) / 2 ^ sh % 256 = ((digF h6 p : Nat) : Int) := by rw [hval]; simp
          have hnx : p + 1 = 4 * i + (j + 1) := by omega
          rw [hnx] at hst
          have HST := hid hst
          have HCAST := hid (fun (_ : Unit) => hcast)
          have HR8 := hid (show OwnD (wr.setCell ⟨db, p, none⟩ (.int .u8 ((digF h6 p : Nat) : Int))) w.heap.size (List.replicate 32 0) from (Below.heap_setCell wr ⟨db, p, none⟩ _ _ hne).trans HR7.out)
          have HB8 := hid (HB7.out.setCell (p := ⟨db, p, none⟩) (by show w.heap.size ≤ db; omega) (.int .u8 ((digF h6 p : Nat) : Int)))
          clear hst hcast hval hlen hp hsh hnx
          generalize (digTo h6 p).getD p 0 = z at *
          go_wp2
          rw [HCAST.out ()]
          exact ⟨⟨j + 1, by omega, by go_num, HST, HR8, HB8⟩, by simp [intOf]; omega⟩
        · have hj' : j = 4 := by omega
          have hJ : ¬ ((j : Int) < 4) := by omega
          have HD2 := hid (show OwnD wr db (digTo h6 (4 * (i + 1))) from by have h1 := HD.out; rw [hj'] at h1; exact h1)
          clear HD hj'
          go_wp2
          exact ⟨⟨i + 1, by omega, by go_num, HD2, HR7, HB7⟩, by simp [intOf]; omega⟩
    · have hi' : i = 8 := by omega
      have hI : ¬ ((i : Int) < 8) := by omega
      have hD := HD.out
      rw [hi', digTo_all] at hD
      have hl32 : (u8s (digL h6)).length = 32 := by simp [u8s, digL_length]
      have HRA := hid (show wr.rangeAt db 0 (u8s (digL h6)) from fun j v hj => by rw [Nat.zero_add, cell_of_heap hD, List.getElem?_toArray]; exact hj)
      have HIF := hid (show (Tryd.prog.info? 24).map (·.size) = some (u8s (digL h6)).length from by rw [hl32]; kernel_rfl)
      have HIF2 := hid (show (Tryd.prog.info? 24).map (·.size) = some (u8s (digL h6)).toArray.size from by rw [List.size_toArray, hl32]; kernel_rfl)
      have HOLD := hid (show (u8s (List.replicate 32 0)).toArray.size = (u8s (digL h6)).toArray.size from by rw [List.size_toArray, List.size_toArray, hl32]; rfl)
      have HONE := hid (show (u8s (digL h6)).toArray.all (·.oneCell') = true from all_oneCell_toArray (u8s_oneH _))
      have hbw := HB7.out
      clear hD hl32 HD hi'
      go_wp2_with (first
        | (refine wpList_load_mid (by rfl) 24 (.tmp 4) (by rfl) db 0 (by rfl) (u8s (digL h6)) _ HRA.out Tryd.underlying24 rfl HIF.out ?_)
        | (refine wpList_store_row (by rfl) 24 (.tmp 2) (.tmp 37) (by rfl) w.heap.size _ (u8s (digL h6)).toArray _ (by rfl) (by rfl) HR7.out HIF2.out HOLD.out HONE.out ?_
           intro w8 hw8 hk8))
      have hres : (loadVar 24 ⟨w.heap.size, 0, none⟩).run Tryd.prog w8 = .ok (.agg (u8s (digL h6)).toArray) w8 := run_loadVar_row _ _ 24 24 _ (0, 0) _ hw8 Tryd.underlying24 rfl HIF2.out
      refine bodyPost_ret (v := .agg (u8s (digL h6)).toArray) (results_at Tryd.results38 rfl hres) rfl ⟨by rw [hdig.out ()], ?_⟩
      exact hbw.trans (hk8.below hbw.size (Nat.le_refl _))
end Go.Proofs.YtehjikogdaclgaaDoor

namespace Go.Proofs.YtehjikogdaclgaaDoor
open Go Go.RowKit
set_option linter.unusedVariables false

theorem list8 (l : List Nat) (h : l.length = 8) : l = [l.getD 0 0, l.getD 1 0, l.getD 2 0, l.getD 3 0, l.getD 4 0, l.getD 5 0, l.getD 6 0, l.getD 7 0] := by
  match l, h with
  | [a, b, c, d, e, f, g, k], _ => rfl
set_option maxRecDepth 100000 in
set_option maxHeartbeats 2000000 in
theorem NewHash_any (KC SH : List Nat) (w : World) (V : Vars w KC SH) :
    Calls Tryd.prog 36 #[] w fun e w' => e = .returned (.pointer (some ⟨w.heap.size, 0, none⟩)) ∧ MsgAt w' w.heap.size KC SH [] ∧ Below w.heap.size w w' := by
  have g : ∀ i, i < 8 → w.cell? ⟨1, i, none⟩ = some (.int .u32 ((SH.getD i 0 : Nat) : Int)) := fun i hi => by
    have h1 : i < SH.length := by rw [V.sl]; exact hi
    have h2 := V.start i (.int .u32 ((SH.getD i 0 : Nat) : Int)) (by simp [u32s, h1])
    rwa [Nat.zero_add] at h2
  have hc : hcells SH (List.replicate 64 0) 0 = hcells [SH.getD 0 0, SH.getD 1 0, SH.getD 2 0, SH.getD 3 0, SH.getD 4 0, SH.getD 5 0, SH.getD 6 0, SH.getD 7 0] (List.replicate 64 0) 0 := by rw [← list8 SH V.sl]
  have hm : MsgAt (w.alloc (.cells (hcells SH (List.replicate 64 0) 0).toArray 112)) w.heap.size KC SH [] :=
    ⟨SH, List.replicate 64 0, ⟨heap_new _ _, V.sl, by simp, V.so, fun i => by rw [zeros_getD]; decide⟩, rfl, fun j hj => absurd hj (Nat.not_lt_zero _)⟩
  rw [hc] at hm
  have HM := hid hm
  have g0 := g 0 (by omega)
  have g1 := g 1 (by omega)
  have g2 := g 2 (by omega)
  have g3 := g 3 (by omega)
  have g4 := g 4 (by omega)
  have g5 := g 5 (by omega)
  have g6 := g 6 (by omega)
  have g7 := g 7 (by omega)
  clear g hc hm V
  generalize SH.getD 0 0 = x0 at *
  generalize SH.getD 1 0 = x1 at *
  generalize SH.getD 2 0 = x2 at *
  generalize SH.getD 3 0 = x3 at *
  generalize SH.getD 4 0 = x4 at *
  generalize SH.getD 5 0 = x5 at *
  generalize SH.getD 6 0 = x6 at *
  generalize SH.getD 7 0 = x7 at *
  go_enter Tryd.func36, Tryd.ntmps36
  go_wp2
  go_ret
  exact ⟨rfl, HM.out, (Below.refl _ _).alloc (Nat.le_refl _) _⟩
theorem dig_length (KC SH m : List Nat) : (dig KC SH m).length = 32 := digL_length _

set_option maxRecDepth 100000 in
set_option maxHeartbeats 1000000 in
theorem SHA256_any (a : Option Addr) (n c : Nat) (KC SH l : List Nat) (w : World) (V : Vars w KC SH) (hl : Bs w (.slice a n c) l) (hc : n ≤ c) (hsz : n ≤ 900000000) :
    Calls Tryd.prog 18 #[.slice a n c] w fun e w' => e = .returned (.agg (u8s (dig KC SH l)).toArray) ∧ Below w.heap.size w w' := by
  have HV := hid V
  have HL := hid hl
  have hn := hl.len
  have HN := hid hn
  obtain ⟨w1, hw1⟩ : ∃ w1, w1 = w.alloc (.cells (u8s (List.replicate 32 0)).toArray 24) := ⟨_, rfl⟩
  have hb1 : Below w.heap.size w w1 := by rw [hw1]; exact (Below.refl _ _).alloc (Nat.le_refl _) _
  have HR1 := hid (show OwnD w1 w.heap.size (List.replicate 32 0) from by rw [hw1]; exact heap_new _ _)
  have hs1 : w1.heap.size = w.heap.size + 1 := by rw [hw1]; simp
  have HB1 := hid hb1
  have HV1 := hid (V.below hb1)
  have hvlt := V.lt
  clear V hl hb1 hn
  go_enter Tryd.func18, Tryd.ntmps18
  go_wp2_with fail
  change Calls _ _ _ (w.alloc (.cells (u8s (List.replicate 32 0)).toArray 24)) _
  rw [← hw1]
  clear hw1
  refine (NewHash_any KC SH w1 HV1.out).mono ?_
  rintro e w2 ⟨rfl, hM2, hb2⟩
  have HM2 := hid hM2
  have HR2 := hid ((hb2.block w.heap.size (by omega)).trans HR1.out)
  have HB2 := hid (HB1.out.trans (hb2.mono HB1.out.size))
  have HV2 := hid (HV1.out.below hb2)
  obtain ⟨hb, hhb⟩ : ∃ hb, hb = w1.heap.size := ⟨_, rfl⟩
  rw [← hhb] at HM2 ⊢
  have HHB := hid hhb
  have h4 : hb = w.heap.size + 1 := by omega
  have HS1 := hid hs1
  clear hM2 hb2 hhb hs1
  have hbl := HL.out.below HB2.out
  have hoff : 0 < n → Off hb (.slice a n c) := fun h0 => by
    rcases HL.out.addr with ⟨h1, _⟩ | ⟨h1, b, o, c', hv⟩
    · have := HN.out; rw [h1] at this; simp at this; omega
    · simp only [Value.slice.injEq] at hv
      obtain ⟨rfl, _, _⟩ := hv
      have h1 := HL.out.cell 0 (by rw [← HN.out]; exact h0)
      have h2 := World.block_lt_of_cell? _ _ h1
      show b ≠ hb
      simp only at h2
      omega
  have HBL := hid hbl
  have HOF := hid hoff
  clear hbl hoff
  have q3 : 3 ≤ hb := by omega
  have qh : w.heap.size ≤ hb := by omega
  have qn : w.heap.size ≠ hb := by omega
  have q4 : ([] : List Nat).length + n ≤ 1000000000 := by rw [List.length_nil, Nat.zero_add]; exact Nat.le_trans hsz (by decide)
  have HQ := hid (Write_gen hb n c a KC SH [] l w2 HM2.out HV2.out q3 HBL.out hc HOF.out q4)
  clear q4
  have H4 := hid h4
  clear h4
  go_wp2_with fail
  refine HQ.out.mono ?_
  clear HQ
  rintro e w3 ⟨rfl, hM3, hk3⟩
  rw [List.nil_append] at hM3
  have HM3 := hid hM3
  have HR3 := hid ((hk3.block w.heap.size (lt_of_heap HR2.out) qn).trans HR2.out)
  have HV3 := hid (HV2.out.kept hk3 q3)
  have HB3 := hid (HB2.out.trans (hk3.below HB2.out.size qh))
  clear hM3 hk3
  go_wp2_with fail
  refine (Sum_any hb KC SH l w3 HM3.out HV3.out q3 (by rw [← HN.out]; exact hsz)).mono ?_
  rintro e w4 ⟨rfl, hb4⟩
  have HR4 := hid ((hb4.block w.heap.size (lt_of_heap HR3.out)).trans HR3.out)
  have hbe := HB3.out.trans (hb4.mono HB3.out.size)
  have hl32 := dig_length KC SH l
  generalize hD : dig KC SH l = D at *
  have HD := hid (fun (_ : Unit) => hD)
  have hl32' : (u8s D).length = 32 := by simp [u8s, hl32]
  have HIF2 := hid (show (Tryd.prog.info? 24).map (·.size) = some (u8s D).toArray.size from by rw [List.size_toArray, hl32']; kernel_rfl)
  have HOLD := hid (show (u8s (List.replicate 32 0)).toArray.size = (u8s D).toArray.size from by rw [List.size_toArray, List.size_toArray, hl32']; rfl)
  have HONE := hid (show (u8s D).toArray.all (·.oneCell') = true from all_oneCell_toArray (u8s_oneH _))
  clear hD hb4 hl32 hl32'
  go_wp2_with (refine wpList_store_row (by rfl) 24 (.tmp 2) (.tmp 9) (by rfl) w.heap.size _ (u8s D).toArray _ (by rfl) (by rfl) HR4.out HIF2.out HOLD.out HONE.out ?_
               intro w8 hw8 hk8)
  have hres : (loadVar 24 ⟨w.heap.size, 0, none⟩).run Tryd.prog w8 = .ok (.agg (u8s D).toArray) w8 := run_loadVar_row _ _ 24 24 _ (0, 0) _ hw8 Tryd.underlying24 rfl HIF2.out
  refine bodyPost_ret (v := .agg (u8s D).toArray) (results_at Tryd.results18 rfl hres) rfl ⟨by first | rfl | rw [HD.out ()], ?_⟩
  exact hbe.trans (hk8.below hbe.size (Nat.le_refl _))
end Go.Proofs.YtehjikogdaclgaaDoor

namespace Go.Proofs.YtehjikogdaclgaaDoor
open Go Go.RowKit

def shaStart : List Nat := [1779033703, 3144134277, 1013904242, 2773480762, 1359893119, 2600822924, 528734635, 1541459225]
def shaRound : List Nat := [1116352408, 1899447441, 3049323471, 3921009573, 961987163, 1508970993, 2453635748, 2870763221, 3624381080, 310598401, 607225278, 1426881987, 1925078388, 2162078206, 2614888103, 3248222580, 3835390401, 4022224774, 264347078, 604807628, 770255983, 1249150122, 1555081692, 1996064986, 2554220882, 2821834349, 2952996808, 3210313671, 3336571891, 3584528711, 113926993, 338241895, 666307205, 773529912, 1294757372, 1396182291, 1695183700, 1986661051, 2177026350, 2456956037, 2730485921, 2820302411, 3259730800, 3345764771, 3516065817, 3600352804, 4094571909, 275423344, 430227734, 506948616, 659060556, 883997877, 958139571, 1322822218, 1537002063, 1747873779, 1955562222, 2024104815, 2227730452, 2361852424, 2428436474, 2756734187, 3204031479, 3329325298]
set_option maxRecDepth 100000 in
theorem sha_abc : dig shaRound shaStart [97, 98, 99] = [186, 120, 22, 191, 143, 1, 207, 234, 65, 65, 64, 222, 93, 174, 34, 35, 176, 3, 97, 163, 150, 23, 122, 156, 180, 16, 255, 97, 242, 0, 21, 173] := by kernel_rfl
end Go.Proofs.YtehjikogdaclgaaDoor

namespace Go.Proofs.YtehjikogdaclgaaDoor
open Go Go.RowKit Go.ChangeShapes Go.WideShapes Go.ChangeAt

abbrev laidA : List (String × DataW Unit) := [("stolon/digest.start", Rows.laid_stolon_digest_start), ("stolon/digest.roundConstants", Rows.laid_stolon_digest_roundConstants)]
theorem ownD : ownKnob Tryd.prog.godebug = none := by kernel_rfl
theorem gStart : Tryd.prog.globalNamed "stolon/digest.start" = some 1 := by kernel_rfl
theorem gRound : Tryd.prog.globalNamed "stolon/digest.roundConstants" = some 2 := by kernel_rfl
theorem tStart : (Tryd.prog.globals[1]?).map (·.type) = some 108 := by kernel_rfl
theorem tRound : (Tryd.prog.globals[2]?).map (·.type) = some 107 := by kernel_rfl
theorem cU32 : Tryd.prog.cellsOf 57 = 1 := by kernel_rfl
theorem cStart : Tryd.prog.cellsOf 108 = 8 := by kernel_rfl
theorem cRound : Tryd.prog.cellsOf 107 = 64 := by kernel_rfl
theorem dStart : Rows.laid_stolon_digest_start (H := Unit) = Lib.tabData .u32 (shaStart.map fun (n : Nat) => (n : Int)) := by kernel_rfl
theorem dRound : Rows.laid_stolon_digest_roundConstants (H := Unit) = Lib.tabData .u32 (shaRound.map fun (n : Nat) => (n : Int)) := by kernel_rfl
theorem range_of_tab {W : World} {name : String} {l : List Nat} {g : Nat} (h : Lib.TabIs Tryd.prog W name .u32 (l.map fun (n : Nat) => (n : Int))) (hg : Tryd.prog.globalNamed name = some g) : W.rangeAt g 0 (u32s l) := fun j v hj => by
  have hjl : j < l.length := by have := (List.getElem?_eq_some_iff.1 hj).1; simpa [u32s] using this
  have h1 := h.cell hg j (by simpa using hjl)
  rw [Nat.zero_add, h1, ← hj]
  simp [u32s, hjl]
theorem vars_of_laid {W : World} (h : laidMetH Tryd.prog laidA W) : Vars W shaRound shaStart := by
  rw [MakeChecks.laidMetH_plain _ _ _ (by kernel_rfl)] at h
  have h1 : laidMet Tryd.prog (("stolon/digest.start", Lib.tabData .u32 (shaStart.map fun (n : Nat) => (n : Int))) :: ("stolon/digest.roundConstants", Lib.tabData .u32 (shaRound.map fun (n : Nat) => (n : Int))) :: []) W := by
    rw [← dStart, ← dRound]; exact h
  have h2 := h1.tail
  have r1 := range_of_tab (Lib.tabIs_of_head gStart tStart Tryd.underlying108 Tryd.underlying57 cU32 cStart h1) gStart
  have r2 := range_of_tab (Lib.tabIs_of_head gRound tRound Tryd.underlying107 Tryd.underlying57 cU32 cRound h2) gRound
  have b1 : ∀ x ∈ shaStart, x < 4294967296 := by decide
  have b2 : ∀ x ∈ shaRound, x < 4294967296 := by decide
  have hg : ∀ (l : List Nat), (∀ x ∈ l, x < 4294967296) → ∀ i, l.getD i 0 < 4294967296 := fun l hl i => by
    rw [List.getD_eq_getElem?_getD]
    by_cases h : i < l.length
    · rw [List.getElem?_eq_getElem h]; exact hl _ (List.getElem_mem _)
    · rw [List.getElem?_eq_none (by omega)]; decide
  have hc := r2 0 (.int .u32 ((shaRound.getD 0 0 : Nat) : Int)) (by rfl)
  exact ⟨r1, r2, World.block_lt_of_cell? _ _ hc, rfl, rfl, hg _ b2, hg _ b1⟩
theorem door_metA (os : Os) (args : Array Value) : laidMetH Tryd.prog laidA ((World.doorLaid Tryd.prog 24 os).forCall (fun _ _ => 0) ⟨#[], args, []⟩).memory :=
  laidMetH_of_parts3 (fuel := 8) (laidMet_of_run' 8 (by kernel_rfl) (by kernel_rfl)) (by kernel_rfl) (by kernel_rfl)
end Go.Proofs.YtehjikogdaclgaaDoor

namespace Go.Proofs.YtehjikogdaclgaaDoor
open Go Go.RowKit
set_option linter.unusedVariables false

def vcB (k n t : Int) : Bool := decide (1 ≤ k ∧ k ≤ n ∧ n ≤ t ∧ t ≤ 255)
set_option maxRecDepth 100000 in
set_option maxHeartbeats 2000000 in
theorem validCounts_any (k n t : Int) (w : World) :
    Calls Tryd.prog 40 #[.int .i64 k, .int .i64 n, .int .i64 t] w fun e w' => e = .returned (.bool (vcB k n t)) ∧ w = w' := by
  by_cases h1 : 1 ≤ k
  case neg =>
    have HB := hid (show vcB k n t = false from by unfold vcB; exact decide_eq_false (fun h => h1 h.1))
    go_enter Tryd.func40, Tryd.ntmps40
    go_wp2
    go_ret
    exact ⟨by rw [HB.out]; rfl, rfl⟩
  by_cases h2 : k ≤ n
  case neg =>
    have HB := hid (show vcB k n t = false from by unfold vcB; exact decide_eq_false (fun h => h2 h.2.1))
    go_enter Tryd.func40, Tryd.ntmps40
    go_wp2
    go_ret
    exact ⟨by rw [HB.out]; rfl, rfl⟩
  by_cases h3 : n ≤ t
  case neg =>
    have HB := hid (show vcB k n t = false from by unfold vcB; exact decide_eq_false (fun h => h3 h.2.2.1))
    go_enter Tryd.func40, Tryd.ntmps40
    go_wp2
    go_ret
    exact ⟨by rw [HB.out]; rfl, rfl⟩
  by_cases h4 : t ≤ 255
  case neg =>
    have HB := hid (show vcB k n t = false from by unfold vcB; exact decide_eq_false (fun h => h4 h.2.2.2))
    go_enter Tryd.func40, Tryd.ntmps40
    go_wp2
    go_ret
    exact ⟨by rw [HB.out]; rfl, rfl⟩
  have HB := hid (show vcB k n t = true from by unfold vcB; exact decide_eq_true ⟨h1, h2, h3, h4⟩)
  go_enter Tryd.func40, Tryd.ntmps40
  go_wp2
  go_ret
  exact ⟨by rw [HB.out]; rfl, rfl⟩

set_option maxRecDepth 100000 in
theorem manifestSize_any (t : Nat) (ht : t ≤ 100000) (w : World) :
    Calls Tryd.prog 44 #[.int .i64 (t : Int)] w fun e w' => e = .returned (.int .i64 ((7 + 32 * (1 + t) : Nat) : Int)) ∧ w = w' := by
  have t1 : IntKind.i64.wrap (1 + (t : Int)) = 1 + (t : Int) := by rw [IntKind.wrap_i64]; omega
  have t2 : IntKind.i64.wrap (32 * (1 + (t : Int))) = 32 * (1 + (t : Int)) := by rw [IntKind.wrap_i64]; omega
  have t3 : IntKind.i64.wrap (7 + 32 * (1 + (t : Int))) = ((7 + 32 * (1 + t) : Nat) : Int) := by rw [IntKind.wrap_i64]; omega
  generalize 7 + 32 * (1 + t) = z at *
  go_enter Tryd.func44, Tryd.ntmps44
  go_wp2
  go_ret
  exact ⟨rfl, rfl⟩

/-- a manifest's cells -/
def mcells (k n t s : Int) (od : List Nat) (v : Value) : List Value := [.int .i64 k, .int .i64 n, .int .i64 t, .int .i64 s] ++ u8s od ++ [v]
theorem mcells_length (k n t s : Int) (od : List Nat) (v : Value) (h : od.length = 32) : (mcells k n t s od v).length = 37 := by simp [mcells, u8s, h]
/-- a block that holds a manifest -/
def ManAt (w : World) (b : Nat) (k n t s : Int) (od : List Nat) (v : Value) : Prop := w.heap[b]? = some (.cells (mcells k n t s od v).toArray 27 (0, 0))
theorem ManAt.c {w : World} {b : Nat} {k n t s : Int} {od : List Nat} {v : Value} (M : ManAt w b k n t s od v) (h : od.length = 32) :
    w.cell? ⟨b, 0, none⟩ = some (.int .i64 k) ∧ w.cell? ⟨b, 1, none⟩ = some (.int .i64 n) ∧ w.cell? ⟨b, 2, none⟩ = some (.int .i64 t) ∧ w.cell? ⟨b, 3, none⟩ = some (.int .i64 s) ∧ w.cell? ⟨b, 36, none⟩ = some v := by
  refine ⟨?_, ?_, ?_, ?_, ?_⟩ <;> rw [cell_of_heap M] <;> simp [mcells, u8s, h]

def vnB (k n t s : Int) : Bool := vcB k n t && decide (0 ≤ s ∧ s ≤ 8192)
set_option maxRecDepth 100000 in
set_option maxHeartbeats 2000000 in
theorem validNumbers_any (k n t s : Int) (od : List Nat) (v : Value) (h : od.length = 32) (w : World) :
    Calls Tryd.prog 42 #[.agg (mcells k n t s od v).toArray] w fun e w' => e = .returned (.bool (vnB k n t s)) ∧ Below w.heap.size w w' := by
  have hM : ManAt (w.alloc (.cells (mcells k n t s od v).toArray 27)) w.heap.size k n t s od v := heap_new _ _
  obtain ⟨c0, c1, c2, c3, -⟩ := hM.c h
  have HB := hid ((Below.refl w.heap.size w).alloc (Nat.le_refl _) (.cells (mcells k n t s od v).toArray 27))
  obtain ⟨w1, hw1⟩ : ∃ w1, w1 = w.alloc (.cells (mcells k n t s od v).toArray 27) := ⟨_, rfl⟩
  rw [← hw1] at c0 c1 c2 c3 HB
  have HV := hid (validCounts_any k n t w1)
  have HE := hid (show vnB k n t s = (vcB k n t && decide (0 ≤ s ∧ s ≤ 8192)) from rfl)
  clear hM h
  go_enter Tryd.func42, Tryd.ntmps42
  go_upto_region 1 with fail
  change Code.wp _ _ _ _ (w.alloc (.cells (mcells k n t s od v).toArray 27))
  rw [← hw1]
  clear hw1
  go_wp2_with fail
  refine HV.out.mono ?_
  rintro e w2 ⟨rfl, rfl⟩
  generalize vcB k n t = b at *
  cases b with
  | false =>
    go_wp2
    go_ret
    exact ⟨by rw [HE.out]; rfl, HB.out⟩
  | true =>
    by_cases h1 : 0 ≤ s
    case neg =>
      have HE2 := hid (show vnB k n t s = false from by rw [HE.out, decide_eq_false (fun h => h1 h.1)]; rfl)
      go_wp2
      go_ret
      exact ⟨by rw [HE2.out]; rfl, HB.out⟩
    by_cases h2 : s ≤ 8192
    case neg =>
      have HE2 := hid (show vnB k n t s = false from by rw [HE.out, decide_eq_false (fun h => h2 h.2)]; rfl)
      go_wp2
      go_ret
      exact ⟨by rw [HE2.out]; show Ending.returned (.bool (decide (s ≤ 8192))) = _; simp [h2], HB.out⟩
    have HE2 := hid (show vnB k n t s = true from by rw [HE.out, decide_eq_true ⟨h1, h2⟩]; rfl)
    go_wp2
    go_ret
    exact ⟨by rw [HE2.out]; first | rfl | (show Ending.returned (.bool (decide (s ≤ 8192))) = _; simp [h2]), HB.out⟩

/-- is a manifest with so many digests valid -/
def manB (k n t s : Int) (m : Nat) : Bool := vnB k n t s && decide ((m : Int) = t)
def manE (k n t s : Int) (m : Nat) : Int := if manB k n t s m = true then 0 else 2
set_option maxRecDepth 100000 in
set_option maxHeartbeats 2000000 in
theorem CheckManifest_any (k n t s : Int) (od : List Nat) (a : Option Addr) (m c : Nat) (h : od.length = 32) (w : World) :
    Calls Tryd.prog 21 #[.agg (mcells k n t s od (.slice a m c)).toArray] w fun e w' => e = .returned (.int .i64 (manE k n t s m)) ∧ Below w.heap.size w w' := by
  have hM : ManAt (w.alloc (.cells (mcells k n t s od (.slice a m c)).toArray 27)) w.heap.size k n t s od (.slice a m c) := heap_new _ _
  have HM := hid hM
  obtain ⟨c0, c1, c2, c3, c36⟩ := hM.c h
  have HB := hid ((Below.refl w.heap.size w).alloc (Nat.le_refl _) (.cells (mcells k n t s od (.slice a m c)).toArray 27))
  have HIF := hid (show (Tryd.prog.info? 27).map (·.size) = some (mcells k n t s od (.slice a m c)).length from by rw [mcells_length _ _ _ _ _ _ h]; kernel_rfl)
  have HV := hid (fun w => validNumbers_any k n t s od (.slice a m c) h w)
  obtain ⟨w1, hw1⟩ : ∃ w1, w1 = w.alloc (.cells (mcells k n t s od (.slice a m c)).toArray 27) := ⟨_, rfl⟩
  rw [← hw1] at c2 c36 HB HM
  have HRA := hid (show w1.rangeAt w.heap.size 0 (mcells k n t s od (.slice a m c)) from fun j v hj => by
    rw [Nat.zero_add, cell_of_heap HM.out, List.getElem?_toArray]
    exact hj)
  have hs1 : w.heap.size < w1.heap.size := by rw [hw1]; simp
  have HE1 := hid (show vnB k n t s = false → manE k n t s m = 2 from fun e => by unfold manE manB; rw [e]; rfl)
  have HE2 := hid (show vnB k n t s = true → (m : Int) ≠ t → manE k n t s m = 2 from fun e e2 => by unfold manE manB; rw [e, decide_eq_false e2]; rfl)
  have HE3 := hid (show vnB k n t s = true → (m : Int) = t → manE k n t s m = 0 from fun e e2 => by unfold manE manB; rw [e, decide_eq_true e2]; rfl)
  clear hM c0 c1 c3 h
  go_enter Tryd.func21, Tryd.ntmps21
  go_upto_region 1 with fail
  change Code.wp _ _ _ _ (w.alloc (.cells (mcells k n t s od (.slice a m c)).toArray 27))
  rw [← hw1]
  clear hw1
  go_wp2_with (refine wpList_load_mid (by rfl) 27 (.tmp 1) (by rfl) w.heap.size 0 (by rfl) (mcells k n t s od (.slice a m c)) _ HRA.out Tryd.underlying27 rfl HIF.out ?_)
  refine (HV.out w1).mono ?_
  rintro e w2 ⟨rfl, hb2⟩
  have d2 := (hb2.cell (p := ⟨w.heap.size, 2, none⟩) hs1).trans c2
  have d36 := (hb2.cell (p := ⟨w.heap.size, 36, none⟩) hs1).trans c36
  have HB2 := hid (HB.out.trans (hb2.mono (by omega)))
  clear hb2 c2 c36
  generalize vnB k n t s = b at *
  cases b with
  | false =>
    have h1 := HE1.out rfl
    have HE := hid h1
    clear h1 HE1 HE2 HE3
    go_wp2
    go_ret
    exact ⟨by rw [HE.out]; rfl, HB2.out⟩
  | true =>
    by_cases hm : (m : Int) = t
    · have h1 := HE3.out rfl hm
      have HE := hid h1
      clear h1 HE1 HE2 HE3
      subst hm
      go_wp2
      go_ret
      exact ⟨by rw [HE.out]; rfl, HB2.out⟩
    · have h1 := HE2.out rfl hm
      have HE := hid h1
      clear h1 HE1 HE2 HE3
      go_wp2
      go_ret
      exact ⟨by rw [HE.out]; rfl, HB2.out⟩
end Go.Proofs.YtehjikogdaclgaaDoor

namespace Go.Proofs.YtehjikogdaclgaaDoor
open Go Go.RowKit
set_option linter.unusedVariables false

theorem mk_u8cH (l c : Nat) (hlc : l ≤ c) (hn : c ≤ 140737488355328) (w : World) : (Instr.makeSlice 22 (.int .i64 l) (.int .i64 c)).run Tryd.prog w = .ok (.slice (some ⟨w.heap.size, 0, none⟩) l c) (w.alloc (zrow c)) := by
  obtain ⟨i0, hi, hz0, hz1, hz2⟩ := info_parts info5
  have h := run_make (P := Tryd.prog) w 22 5 i0 (.int .u8 0) Tryd.underlying22 hi hz0 .i64 .i64 l c (by omega) (by omega) (by rw [hz2]; omega) (by omega)
  rw [h, hz1]
  simp only [Int.toNat_natCast, Nat.mul_one, Value.cells, made_u8]
  rfl
/-- appending bytes to a row of one's own (as in Red) -/
theorem step_own_bytesH {ops : Array Oper} {o : Oper} {a : Act} {w : World} {K : Act → World → Prop} {Q : Exit → Act → World → Prop} {E : Prop} (hgd : o.guard = none) (s x : Operand)
    (ho : o.op = .call { callee := .builtin .append, args := #[s, x], argTypes := #[22, 22] }) (base n0 : Nat) (v0 : Value) (l0 : List Nat) (hs : a.eval s = v0) (hown : w.ownsRow base 5 1 v0 n0 (u8s l0))
    (sa : Option Addr) (m c : Nat) (l : List Nat) (hx : a.eval x = .slice sa m c) (hb : Bs w (.slice sa m c) l) (hnil : sa = none → c = 0) (hm : n0 + m ≤ 461168601842) (hbase : base ≤ w.heap.size)
    (hK : ∀ v' w', w'.ownsRow base 5 1 v' (n0 + m) (u8s (l0 ++ l)) → w.grownBy w' v0.ownBlock → K (a.put o.dst v') w') :
    if Region.wanted o (yielded ops a.tmps) = true then Oper.wp Tryd.prog o a w K Q else E := by
  have hw : Region.wanted o (yielded ops a.tmps) = true := by simp [Region.wanted, hgd]
  rw [if_pos hw]
  obtain ⟨i0, hi, hz0, hz1, hz2⟩ := info_parts info5
  have hlen := hb.len
  have hap : u8s (l0 ++ l) = u8s l0 ++ u8s l := by simp [u8s]
  cases sa with
  | none =>
    obtain rfl := hnil rfl
    have h0 : l = [] := by
      rcases hb.addr with ⟨h0, _⟩ | ⟨_, b, o', c', hv⟩
      · exact h0
      · simp at hv
    subst h0
    obtain rfl : m = 0 := hlen
    have hrun := run_append_owned_none (P := Tryd.prog) (w := w) base 22 o.type 5 i0 1 Tryd.underlying22 hi v0 n0 (u8s l0) hown
    unfold Oper.wp
    simp [execOp, ho, resolve, invoke, builtin, hs, hx, hrun, Result.andThen]
    refine hK _ _ ?_ (World.grownBy.refl w _)
    rw [List.append_nil, Nat.add_zero]
    exact hown
  | some ad =>
    have hnews : ∀ j u, (u8s l)[j]? = some u → w.cell? (ad.add j) = some u := fun j u hj => by
      have hjl : j < l.length := by have := (List.getElem?_eq_some_iff.1 hj).1; simpa [u8s] using this
      rcases hb.addr with ⟨h0, _⟩ | ⟨_, b, o', c', hv⟩
      · rw [h0] at hjl; exact absurd hjl (Nat.not_lt_zero _)
      · simp only [Value.slice.injEq, Option.some.injEq] at hv
        obtain ⟨rfl, _, _⟩ := hv
        have hc := hb.cell j hjl
        have e : (⟨b, o', none⟩ : Addr).add j = ⟨b, o' + j, none⟩ := by unfold Addr.add; split <;> simp_all
        rw [e, hc, ← hj]
        simp [u8s, List.getElem?_eq_getElem hjl]
    refine wp_append_own w s x _ ho base 5 i0 (.int .u8 0) 1 1 Tryd.underlying22 hi hz0 hz1 hz2 rfl (by decide) _ n0 (u8s l0) hs hown ad m c (u8s l) hx (by simp [u8s]; omega) hnews (fun u hu => by
      unfold u8s at hu
      obtain ⟨y, _, rfl⟩ := List.mem_map.1 hu
      rfl) (by unfold maxLen; omega) (by omega) hbase ?_
    intro v' w' hown' hg hn
    rw [← hap] at hown'
    exact hK v' w' hown' hg
/-- the same, with where the new row lies; something is appended -/
theorem step_own_lies {ops : Array Oper} {o : Oper} {a : Act} {w : World} {K : Act → World → Prop} {Q : Exit → Act → World → Prop} {E : Prop} (hgd : o.guard = none) (s x : Operand)
    (ho : o.op = .call { callee := .builtin .append, args := #[s, x], argTypes := #[22, 22] }) (base n0 : Nat) (v0 : Value) (l0 : List Nat) (hs : a.eval s = v0) (hown : w.ownsRow base 5 1 v0 n0 (u8s l0))
    (sb so : Nat) (m c : Nat) (l : List Nat) (hx : a.eval x = .slice (some ⟨sb, so, none⟩) m c) (hb : Bs w (.slice (some ⟨sb, so, none⟩) m c) l) (hm0 : 0 < m) (hm : n0 + m ≤ 461168601842) (hbase : base ≤ w.heap.size)
    (hK : ∀ g cap w', w'.ownsRow base 5 1 (.slice (some ⟨g, 0, none⟩) (n0 + m) cap) (n0 + m) (u8s (l0 ++ l)) → w.grownBy w' v0.ownBlock → (v0.ownBlock = some g ∨ g = w.heap.size) → g < w'.heap.size → K (a.put o.dst (.slice (some ⟨g, 0, none⟩) (n0 + m) cap)) w') :
    if Region.wanted o (yielded ops a.tmps) = true then Oper.wp Tryd.prog o a w K Q else E := by
  have hw : Region.wanted o (yielded ops a.tmps) = true := by simp [Region.wanted, hgd]
  rw [if_pos hw]
  obtain ⟨i0, hi, hz0, hz1, hz2⟩ := info_parts info5
  have hlen := hb.len
  have hap : u8s (l0 ++ l) = u8s l0 ++ u8s l := by simp [u8s]
  have hnews : ∀ j u, (u8s l)[j]? = some u → w.cell? ((⟨sb, so, none⟩ : Addr).add j) = some u := fun j u hj => by
    have hjl : j < l.length := by have := (List.getElem?_eq_some_iff.1 hj).1; simpa [u8s] using this
    have hc := hb.cell j hjl
    have e : (⟨sb, so, none⟩ : Addr).add j = ⟨sb, so + j, none⟩ := by unfold Addr.add; split <;> simp_all
    rw [e, hc, ← hj]
    simp [u8s, List.getElem?_eq_getElem hjl]
  refine wp_append_lies w s x _ ho base 5 i0 (.int .u8 0) 1 1 Tryd.underlying22 hi hz0 hz1 hz2 rfl (by decide) _ n0 (u8s l0) hs hown ⟨sb, so, none⟩ m c (u8s l) hx (by simp [u8s]; omega) hnews (fun u hu => by
    unfold u8s at hu
    obtain ⟨y, _, rfl⟩ := List.mem_map.1 hu
    rfl) hm0 (by unfold maxLen; omega) (by omega) hbase _ rfl ?_
  intro g cap w' hown' hg hat hlt
  rw [← hap] at hown'
  exact hK g cap w' hown' hg hat hlt
end Go.Proofs.YtehjikogdaclgaaDoor

namespace Go.Proofs.YtehjikogdaclgaaDoor
open Go Go.RowKit
set_option linter.unusedVariables false

/-- a Writer in memory: its limit, its data (a row of its own), whether it failed -/
structure WrAt (w : World) (wb lim : Nat) (v : Value) (l : List Nat) (f : Bool) : Prop where
  at_ : w.heap[wb]? = some (.cells #[.int .i64 (lim : Int), v, .bool f] 115 (0, 0))
  own : w.ownsRow (wb + 1) 5 1 v l.length (u8s l)
  lt : ∀ n ∈ l, n < 256
  fit : l.length ≤ lim
  cap : lim ≤ 100000000000
/-- everything but the Writer and its row is as it was -/
structure KeptR (wb : Nat) (v : Value) (w w' : World) : Prop where
  os : w'.os = w.os
  tape : w'.tape = w.tape
  output : w'.output = w.output
  size : w.heap.size ≤ w'.heap.size
  block : ∀ k, k < w.heap.size → k ≠ wb → v.ownBlock ≠ some k → w'.heap[k]? = w.heap[k]?
/-- the row behind a step is the row before it, or a new one -/
def SameRow (w : World) (v v' : Value) : Prop := ∀ k, v'.ownBlock = some k → v.ownBlock = some k ∨ w.heap.size ≤ k
theorem SameRow.refl (w : World) (v : Value) : SameRow w v v := fun k h => .inl h
theorem KeptR.refl (wb : Nat) (v : Value) (w : World) : KeptR wb v w w := ⟨rfl, rfl, rfl, Nat.le_refl _, fun _ _ _ _ => rfl⟩
theorem KeptR.setCell {wb : Nat} {v : Value} {w w' : World} (h : KeptR wb v w w') (i : Nat) (u : Value) : KeptR wb v w (w'.setCell ⟨wb, i, none⟩ u) :=
  ⟨h.os, h.tape, h.output, by simpa using h.size, fun k hk hb hv => by rw [heap_setCell_other w' _ k _ hb]; exact h.block k hk hb hv⟩
theorem KeptR.trans {wb : Nat} {v v' : Value} {x y z : World} (h : KeptR wb v x y) (s : SameRow x v v') (k : KeptR wb v' y z) : KeptR wb v x z :=
  ⟨k.os.trans h.os, k.tape.trans h.tape, k.output.trans h.output, Nat.le_trans h.size k.size, fun i hi hb hv =>
    (k.block i (Nat.lt_of_lt_of_le hi h.size) hb (fun e => by
      rcases s i e with e | e
      · exact hv e
      · omega)).trans (h.block i hi hb hv)⟩
theorem SameRow.trans {x y : World} {v v' v'' : Value} (h : SameRow x v v') (hs : x.heap.size ≤ y.heap.size) (k : SameRow y v' v'') : SameRow x v v'' := fun i hi => by
  rcases k i hi with e | e
  · exact h i e
  · exact .inr (by omega)
theorem KeptR.below {wb B : Nat} {v : Value} {w w' : World} (h : KeptR wb v w w') (hB : B ≤ w.heap.size) (hb : B ≤ wb) (hv : ∀ k, v.ownBlock = some k → B ≤ k) : Below B w w' :=
  ⟨h.os, h.tape, h.output, h.size, fun k hk => h.block k (by omega) (by omega) (fun e => by have := hv k e; omega)⟩
theorem WrAt.lt_size {w : World} {wb lim : Nat} {v : Value} {l : List Nat} {f : Bool} (W : WrAt w wb lim v l f) : wb < w.heap.size := lt_of_heap W.at_
theorem WrAt.sl {w : World} {wb lim : Nat} {v : Value} {l : List Nat} {f : Bool} (W : WrAt w wb lim v l f) : ∃ a c, v = .slice a l.length c ∧ l.length ≤ c ∧ Bs w v l := by
  obtain ⟨a, c, h1, -, h3, h4, -⟩ := bs_of_owns W.own W.lt
  exact ⟨a, c, h1, h3, h4⟩
theorem WrAt.fail {w : World} {wb lim : Nat} {v : Value} {l : List Nat} {f : Bool} (W : WrAt w wb lim v l f) : WrAt (w.setCell ⟨wb, 2, none⟩ (.bool true)) wb lim v l true := by
  refine ⟨?_, ?_, W.lt, W.fit, W.cap⟩
  · have h := heap_setCell_same w wb 2 _ _ (.bool true) W.at_
    simpa using h
  · refine ⟨W.own.1, ?_⟩
    rcases W.own.2 with h | ⟨g, cap, cur, h1, h2, h3, h4⟩
    · exact .inl h
    · exact .inr ⟨g, cap, cur, h1, h2, by rw [heap_setCell_other w _ g _ (by show g ≠ wb; omega)]; exact h3, h4⟩

set_option maxRecDepth 100000 in
set_option maxHeartbeats 2000000 in
theorem NewWriter_any (lim : Nat) (hl : lim ≤ 100000000000) (w : World) :
    Calls Tryd.prog 43 #[.int .i64 (lim : Int)] w fun e w' => e = .returned (.pointer (some ⟨w.heap.size, 0, none⟩)) ∧ WrAt w' w.heap.size lim (.slice none 0 0) [] false ∧ Below w.heap.size w w' := by
  have HM := hid (show WrAt (w.alloc (.cells #[.int .i64 (lim : Int), .slice none 0 0, .bool false] 115)) w.heap.size lim (.slice none 0 0) [] false from ⟨heap_new _ _, World.ownsRow_nil _ _ _ _, fun n h => absurd h List.not_mem_nil, Nat.zero_le _, hl⟩)
  have h0 : (0 : Int) ≤ (lim : Int) := by omega
  go_enter Tryd.func43, Tryd.ntmps43
  go_wp2
  go_ret
  exact ⟨rfl, HM.out, (Below.refl _ _).alloc (Nat.le_refl _) _⟩

set_option maxRecDepth 100000 in
set_option maxHeartbeats 2000000 in
theorem fits_any (wb lim n : Nat) (v : Value) (l : List Nat) (f : Bool) (w : World) (W : WrAt w wb lim v l f) (hn : n ≤ 100000000000) :
    Calls Tryd.prog 66 #[.pointer (some ⟨wb, 0, none⟩), .int .i64 (n : Int)] w fun e w' => e = .returned (.bool (!(f || decide (lim < l.length + n)))) ∧ WrAt w' wb lim v l (f || decide (lim < l.length + n)) ∧ KeptR wb v w w' := by
  obtain ⟨a, c, rfl, hc, hb⟩ := W.sl
  have c0 : w.cell? ⟨wb, 0, none⟩ = some (.int .i64 (lim : Int)) := by rw [cell_of_heap W.at_]; rfl
  have c1 : w.cell? ⟨wb, 1, none⟩ = some (.slice a l.length c) := by rw [cell_of_heap W.at_]; rfl
  have c2 : w.cell? ⟨wb, 2, none⟩ = some (.bool f) := by rw [cell_of_heap W.at_]; rfl
  have f2 := free_of_heap W.at_ 2
  have h1 := W.fit
  have h2 := W.cap
  have HW := hid W
  clear W hb
  generalize l.length = m at *
  have t1 : IntKind.i64.wrap ((lim : Int) - (m : Int)) = (lim : Int) - (m : Int) := by rw [IntKind.wrap_i64]; omega
  by_cases hf : lim < m + n
  · have hd : (lim : Int) - (m : Int) < (n : Int) := by omega
    go_enter Tryd.func66, Tryd.ntmps66
    go_wp2
    go_quiet (fail)
    have F2 : (w.drewN nq).frozen? ⟨wb, 2, none⟩ = false := f2
    have C2 : (w.drewN nq).cell? ⟨wb, 2, none⟩ = some (.bool f) := c2
    have HX := hid (show WrAt (w.drewN nq) wb lim (.slice a m c) l f from ⟨HW.out.at_, HW.out.own, HW.out.lt, HW.out.fit, HW.out.cap⟩)
    have HK := hid (show KeptR wb (.slice a m c) w (w.drewN nq) from ⟨rfl, rfl, rfl, Nat.le_refl _, fun _ _ _ _ => rfl⟩)
    generalize w.drewN nq = w2 at *
    go_wp2
    go_ret
    have e : decide (lim < m + n) = true := by simpa using hf
    refine ⟨?_, ?_, ?_⟩
    · rw [e, Bool.or_true]; rfl
    · rw [e, Bool.or_true]; exact HX.out.fail
    · exact HK.out.setCell 2 _
  · have hd : ¬ ((lim : Int) - (m : Int) < (n : Int)) := by omega
    go_enter Tryd.func66, Tryd.ntmps66
    go_wp2
    go_quiet (fail)
    have C2 : (w.drewN nq).cell? ⟨wb, 2, none⟩ = some (.bool f) := c2
    have HX := hid (show WrAt (w.drewN nq) wb lim (.slice a m c) l f from ⟨HW.out.at_, HW.out.own, HW.out.lt, HW.out.fit, HW.out.cap⟩)
    have HK := hid (show KeptR wb (.slice a m c) w (w.drewN nq) from ⟨rfl, rfl, rfl, Nat.le_refl _, fun _ _ _ _ => rfl⟩)
    generalize w.drewN nq = w2 at *
    go_wp2
    go_ret
    have e : decide (lim < m + n) = false := by simpa using hf
    refine ⟨?_, ?_, ?_⟩
    · rw [e, Bool.or_false]; rfl
    · rw [e, Bool.or_false]; exact HX.out
    · exact HK.out
end Go.Proofs.YtehjikogdaclgaaDoor
