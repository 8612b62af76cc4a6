/-
  known: the few calls that every statement of chapter 2 ends with. · checkPieces: the first error of a list of pieces. · A set of numbers as a map from int to bool: which numbers have occurred. · The reference's sizes and Valid. · Two digests are compared.
-/
import Derived.Test.YtehjikogdaclgaaDoorBb11
import Derived.Test.YtehjikogdaclgaaDoorBb3
import Derived.Test.YtehjikogdaclgaaDoorBb4
import Derived.Deep.DeepCutAuto
import Derived.Maps.OwnOps
import Derived.Maps.Views
import Derived.Test.YtehjikogdaclgaaDoorBb6
import Derived.Test.YtehjikogdaclgaaDoorBb5
import Derived.ChangeKeysEq
namespace Go.Proofs.YtehjikogdaclgaaDoor
open Go Go.RowKit
set_option linter.unusedVariables false

theorem hex_abc : bstr (hexL [186, 120, 22, 191, 143, 1, 207, 234, 65, 65, 64, 222, 93, 174, 34, 35, 176, 3, 97, 163, 150, 23, 122, 156, 180, 16, 255, 97, 242, 0, 21, 173] 32) = (⟨#[98, 97, 55, 56, 49, 54, 98, 102, 56, 102, 48, 49, 99, 102, 101, 97, 52, 49, 52, 49, 52, 48, 100, 101, 53, 100, 97, 101, 50, 50, 50, 51, 98, 48, 48, 51, 54, 49, 97, 51, 57, 54, 49, 55, 55, 97, 57, 99, 98, 52, 49, 48, 102, 102, 54, 49, 102, 50, 48, 48, 49, 53, 97, 100]⟩ : ByteArray) := by kernel_rfl
set_option maxRecDepth 100000 in
set_option maxHeartbeats 2000000 in
theorem known_dg (w : World) (V : Vars w shaRound shaStart) :
    Calls Tryd.prog 10 #[] w fun e w' => e = .returned (.bool true) ∧ Below w.heap.size w w' := by
  have hvlt := V.lt
  -- the digest of abc
  obtain ⟨w1, hw1⟩ : ∃ x, x = w.alloc (.cells (u8s [97, 98, 99]).toArray 5 (3, 4)) := ⟨_, rfl⟩
  have hb1 : Below w.heap.size w w1 := by rw [hw1]; exact (Below.refl _ _).alloc (Nat.le_refl _) _
  have HBS1 := hid (show Bs w1 (.slice (some ⟨w.heap.size, 0, none⟩) 3 3) [97, 98, 99] from by rw [hw1]; exact bs_mark w [97, 98, 99] (by decide) _ _ 3)
  have HV1 := hid (V.below hb1)
  have HSHA := hid (SHA256_any (some ⟨w.heap.size, 0, none⟩) 3 3 shaRound shaStart [97, 98, 99] w1 HV1.out HBS1.out (Nat.le_refl _) (by decide))
  have hdl := dig_length shaRound shaStart [97, 98, 99]
  have hhex : bstr (hexL (dig shaRound shaStart [97, 98, 99]) 32) = (⟨#[98, 97, 55, 56, 49, 54, 98, 102, 56, 102, 48, 49, 99, 102, 101, 97, 52, 49, 52, 49, 52, 48, 100, 101, 53, 100, 97, 101, 50, 50, 50, 51, 98, 48, 48, 51, 54, 49, 97, 51, 57, 54, 49, 55, 55, 97, 57, 99, 98, 52, 49, 48, 102, 102, 54, 49, 102, 50, 48, 48, 49, 53, 97, 100]⟩ : ByteArray) := by rw [sha_abc]; exact hex_abc
  have hdlt : ∀ i, (dig shaRound shaStart [97, 98, 99]).getD i 0 < 256 := by
    rw [sha_abc]
    intro i
    rw [List.getD_eq_getElem?_getD]
    by_cases h : i < [186, 120, 22, 191, 143, 1, 207, 234, 65, 65, 64, 222, 93, 174, 34, 35, 176, 3, 97, 163, 150, 23, 122, 156, 180, 16, 255, 97, 242, 0, 21, 173].length
    · rw [List.getElem?_eq_getElem h]
      have : ∀ x ∈ [186, 120, 22, 191, 143, 1, 207, 234, 65, 65, 64, 222, 93, 174, 34, 35, 176, 3, 97, 163, 150, 23, 122, 156, 180, 16, 255, 97, 242, 0, 21, 173], x < 256 := by decide
      exact this _ (List.getElem_mem h)
    · rw [List.getElem?_eq_none (by omega)]; decide
  generalize dig shaRound shaStart [97, 98, 99] = D at *
  have HHEX := hid (fun w => Hex_any D hdl hdlt w)
  obtain ⟨X, hX⟩ : ∃ X, X = bstr (hexL D 32) := ⟨_, rfl⟩
  rw [← hX] at HHEX hhex
  have hne : (X.toList == ([98, 97, 55, 56, 49, 54, 98, 102, 56, 102, 48, 49, 99, 102, 101, 97, 52, 49, 52, 49, 52, 48, 100, 101, 53, 100, 97, 101, 50, 50, 50, 51, 98, 48, 48, 51, 54, 49, 97, 51, 57, 54, 49, 55, 55, 97, 57, 99, 98, 52, 49, 48, 102, 102, 54, 49, 102, 50, 48, 48, 49, 53, 97, 100] : List UInt8)) = true := by rw [hhex]; kernel_rfl
  have HB1 := hid hb1
  clear hhex hdlt hdl hX V hb1
  have kc := fun (w : World) (C : Array Value) (n c : Nat) => Lib.run_convert_bytes_const (P := Tryd.prog) w 22 5 C n c Tryd.underlying22 Tryd.underlying5
  go_enter Tryd.func10, Tryd.ntmps10
  go_wp2_with fail
  change Calls _ _ _ (w.alloc (.cells (u8s [97, 98, 99]).toArray 5 (3, 4))) _
  rw [← hw1]
  clear hw1
  refine HSHA.out.mono ?_
  clear HSHA
  rintro e w2 ⟨rfl, hb2⟩
  have HB2 := hid (HB1.out.trans (hb2.mono HB1.out.size))
  have HV2 := hid (HV1.out.below hb2)
  clear hb2
  go_wp2_with fail
  refine (HHEX.out w2).mono ?_
  clear HHEX
  rintro e w3 ⟨rfl, hb3⟩
  have HB3 := hid (HB2.out.trans (hb3.mono HB2.out.size))
  have HV3 := hid (HV2.out.below hb3)
  clear hb3
  obtain ⟨w4, hw4⟩ : ∃ x, x = w3.alloc (.cells (u8s [49, 50, 51, 52, 53, 54, 55, 56, 57]).toArray 5 (9, 10)) := ⟨_, rfl⟩
  have hb4 : Below w3.heap.size w3 w4 := by rw [hw4]; exact (Below.refl _ _).alloc (Nat.le_refl _) _
  have HBS4 := hid (show Bs w4 (.slice (some ⟨w3.heap.size, 0, none⟩) 9 9) [49, 50, 51, 52, 53, 54, 55, 56, 57] from by rw [hw4]; exact bs_mark w3 [49, 50, 51, 52, 53, 54, 55, 56, 57] (by decide) _ _ 9)
  have hcrc := CRC32C_any (some ⟨w3.heap.size, 0, none⟩) 9 9 [49, 50, 51, 52, 53, 54, 55, 56, 57] w4 HBS4.out (by decide)
  rw [crc_nine] at hcrc
  have HCRC := hid hcrc
  have HB4 := hid (HB3.out.trans (hb4.mono HB3.out.size))
  have HV4 := hid (HV3.out.below hb4)
  clear hcrc hb4
  go_wp2_with fail
  change Calls _ _ _ (w3.alloc (.cells (u8s [49, 50, 51, 52, 53, 54, 55, 56, 57]).toArray 5 (9, 10))) _
  rw [← hw4]
  clear hw4
  refine HCRC.out.mono ?_
  clear HCRC
  rintro e w5 ⟨rfl, rfl⟩
  go_wp2_with fail
  refine (newField_any w4).mono ?_
  rintro e w6 ⟨rfl, hF6, hb6⟩
  have HB6 := hid (HB4.out.trans (hb6.mono HB4.out.size))
  have HV6 := hid (HV4.out.below hb6)
  obtain ⟨fb, hfb⟩ : ∃ x, x = w4.heap.size := ⟨_, rfl⟩
  rw [← hfb] at hF6 ⊢
  have hfw : w.heap.size ≤ fb := by rw [hfb]; exact HB4.out.size
  have HF6 := hid hF6
  clear hb6 hfb hF6
  obtain ⟨w7, hw7⟩ : ∃ x, x = w6.alloc (.cells (u8s [97, 98]).toArray 5 (2, 3)) := ⟨_, rfl⟩
  have hb7 : Below w6.heap.size w6 w7 := by rw [hw7]; exact (Below.refl _ _).alloc (Nat.le_refl _) _
  have HBS7 := hid (show Bs w7 (.slice (some ⟨w6.heap.size, 0, none⟩) 2 2) [97, 98] from by rw [hw7]; exact bs_mark w6 [97, 98] (by decide) _ _ 2)
  have HF7 := hid (show Fld w7 fb from .inl ((hb7.block fb (lt_of_heap HF6.out)).trans HF6.out))
  have hf67 : fb < w6.heap.size := lt_of_heap HF6.out
  have HB7 := hid (HB6.out.trans (hb7.mono HB6.out.size))
  have HV7 := hid (HV6.out.below hb7)
  have HMK := hid (Make_any fb 2 3 3 2 2 (some ⟨w6.heap.size, 0, none⟩) shaRound shaStart [97, 98] w7 HF7.out HV7.out HBS7.out (by show w6.heap.size ≠ fb; omega) (Nat.le_refl _) (by decide) (by decide) (by decide) (by decide) (by decide) (by omega))
  clear hb7
  go_wp2_with fail
  change Calls _ _ _ (w6.alloc (.cells (u8s [97, 98]).toArray 5 (2, 3))) _
  rw [← hw7]
  clear hw7
  refine HMK.out.mono ?_
  clear HMK
  rintro e w8 ⟨rb, mb, g, gd, bf, N, rfl, R⟩
  have HB8 := hid (HB7.out.trans (R.kept.below HB7.out.size hfw))
  have hdl2 := dig_length shaRound shaStart [97, 98]
  have HDG := hid (show DgAt w8 (.slice (some ⟨gd, 0, none⟩) 3 3) [pdg shaRound shaStart [97, 98] 2 (plen 2 2) 0, pdg shaRound shaStart [97, 98] 2 (plen 2 2) 1, pdg shaRound shaStart [97, 98] 2 (plen 2 2) 2] from dgAt_three R.rng)
  have HLT2 := hid (show ∀ x ∈ dig shaRound shaStart [97, 98], x < 256 from digL_lt ())
  generalize pdg shaRound shaStart [97, 98] 2 (plen 2 2) 0 = g0 at *
  generalize pdg shaRound shaStart [97, 98] 2 (plen 2 2) 1 = g1 at *
  generalize pdg shaRound shaStart [97, 98] 2 (plen 2 2) 2 = g2 at *
  generalize dig shaRound shaStart [97, 98] = od at *
  have HML := hid (mcells_length ((2 : Nat) : Int) ((3 : Nat) : Int) ((3 : Nat) : Int) ((2 : Nat) : Int) od (.slice (some ⟨gd, 0, none⟩) 3 3) hdl2)
  have HON := hid (mcells_one ((2 : Nat) : Int) ((3 : Nat) : Int) ((3 : Nat) : Int) ((2 : Nat) : Int) od (some ⟨gd, 0, none⟩) 3 3)
  have HC3 := hid (fun (w' : World) (b : Nat) (h : w'.heap[b]? = some (.cells (mcells ((2 : Nat) : Int) ((3 : Nat) : Int) ((3 : Nat) : Int) ((2 : Nat) : Int) od (.slice (some ⟨gd, 0, none⟩) 3 3)).toArray 27 (0, 0))) => (show w'.cell? ⟨b, 3, none⟩ = some (.int .i64 ((2 : Nat) : Int)) from (ManAt.c h hdl2).2.2.2.1))
  have HEN := hid (fun (wx : World) (h : DgAt wx (.slice (some ⟨gd, 0, none⟩) 3 3) [g0, g1, g2]) => EncodeM_any 2 3 3 2 od [g0, g1, g2] (.slice (some ⟨gd, 0, none⟩) 3 3) hdl2 HLT2.out wx h (by rfl))
  have H7 := hid (man_known od hdl2 [g0, g1, g2])
  obtain ⟨M, hM⟩ : ∃ x, x = mcells ((2 : Nat) : Int) ((3 : Nat) : Int) ((3 : Nat) : Int) ((2 : Nat) : Int) od (.slice (some ⟨gd, 0, none⟩) 3 3) := ⟨_, rfl⟩
  rw [← hM] at HML HON HC3
  have HEN := hid (fun (wx : World) (h : DgAt wx (.slice (some ⟨gd, 0, none⟩) 3 3) [g0, g1, g2]) => (show Calls Tryd.prog 22 #[.agg M.toArray] wx fun e w' => ∃ u, e = .returned (.tuple #[u, .int .i64 0]) ∧ ∃ wy, Copied wy (7 + 32 * (1 + 3)) (encTo 2 3 3 2 od [g0, g1, g2] 3) u w' ∧ Below wx.heap.size wx wy from by rw [hM]; exact HEN.out wx h))
  rw [← hM]
  have HIF := hid (show (Tryd.prog.info? 27).map (·.size) = some M.length from by rw [HML.out]; kernel_rfl)
  have HIF2 := hid (show (Tryd.prog.info? 27).map (·.size) = some M.toArray.size from by rw [List.size_toArray, HML.out]; kernel_rfl)
  have HSZ := hid (show mz.size = M.toArray.size from by rw [show M.toArray.size = 37 from by rw [List.size_toArray, HML.out]]; rfl)
  obtain ⟨w9, hw9⟩ : ∃ x, x = w8.alloc (.cells mz 27) := ⟨_, rfl⟩
  have hb9 : Below w8.heap.size w8 w9 := by rw [hw9]; exact (Below.refl _ _).alloc (Nat.le_refl _) _
  have HR9 := hid (show w9.heap[w8.heap.size]? = some (.cells mz 27 (0, 0)) from by rw [hw9]; exact heap_new _ _)
  have hs8 := HB8.out.size
  have HB9 := hid (HB8.out.trans (hb9.mono HB8.out.size))
  have HDG9 := hid (HDG.out.same (hb9.block _ R.gdl))
  have hgd8 := R.gdl
  obtain ⟨mbk, hmbk⟩ : ∃ x, x = w8.heap.size := ⟨_, rfl⟩
  rw [← hmbk] at HR9
  clear hM hdl2 hb9 N R HLT2 HDG
  go_wp2_with (first
    | (refine wpList_store_row (by rfl) 27 (.tmp 1) (.tmp 22) (by rfl) w8.heap.size mz M.toArray 27 (by rfl) (by rfl) (by rw [← hmbk]; exact (by rw [hw9] at HR9; exact HR9.out)) HIF2.out HSZ.out HON.out ?_
       intro wa hwa hka)
    | (refine wpList_load_mid (by rfl) 27 (.tmp 1) (by rfl) w8.heap.size 0 (by rfl) M _ (range_of_heap hwa) Tryd.underlying27 rfl HIF.out ?_))
  have hka : Kept w8.heap.size w9 wa := by rw [hw9]; exact hka
  have HBa := hid (HB9.out.trans (hka.below HB9.out.size hs8))
  have HWA := hid hwa
  have hlt8 : w8.heap.size < wa.heap.size := lt_of_heap hwa
  refine (HEN.out wa (HDG9.out.same (hka.block _ (by rw [hw9]; simp; omega) (by omega)))).mono ?_
  clear hwa hka HEN hw9 HDG9 HR9 hmbk
  rintro e wb ⟨u, rfl, wy, hcp, hby⟩
  obtain ⟨au, cu, rfl, hcu, hbs, hnil, hfar, hbu⟩ := hcp
  have hbb : Below wa.heap.size wa wb := hby.trans (hbu.mono hby.size)
  have c3 := HC3.out wb w8.heap.size ((hbb.block _ hlt8).trans HWA.out)
  have HBb := hid (HBa.out.trans (hbb.mono HBa.out.size))
  have hup := fun w' => upto_run au (7 + 32 * (1 + 3)) cu 7 (by omega) w'
  have hbs7 := bs_upto hbs 7 (by omega)
  rw [H7.out] at hbs7
  have hcv := conv_bs hbs7
  rw [bstr_seven] at hcv
  clear hbb hbu hbs hnil hfar hby hbs7 HC3 H7 HWA
  go_wp2
  go_ret
  exact ⟨rfl, HBb.out⟩
end Go.Proofs.YtehjikogdaclgaaDoor

namespace Go.Proofs.YtehjikogdaclgaaDoor
open Go Go.RowKit
set_option linter.unusedVariables false

/-- the number occurs earlier -/
def occ (idx : Nat → Int) (i : Nat) (v : Int) : Bool := (List.range i).any fun j => idx j == v
theorem occ_iff (idx : Nat → Int) (i : Nat) (v : Int) : occ idx i v = true ↔ ∃ j, j < i ∧ idx j = v := by
  unfold occ
  rw [List.any_eq_true]
  constructor
  · rintro ⟨j, h1, h2⟩; exact ⟨j, List.mem_range.1 h1, by simpa using h2⟩
  · rintro ⟨j, h1, h2⟩; exact ⟨j, List.mem_range.2 h1, by simpa using h2⟩
theorem occ_succ (idx : Nat → Int) (i : Nat) (v : Int) : occ idx (i + 1) v = (occ idx i v || idx i == v) := by
  unfold occ
  rw [List.range_succ, List.any_append]
  simp
/-- the error of piece i -/
def stepE (t : Int) (idx ce : Nat → Int) (i : Nat) : Int := if idx i < 0 ∨ t ≤ idx i then 2 else if occ idx i (idx i) = true then 7 else ce i
/-- the first error of the first pieces, or 0 -/
def chkTo (t : Int) (idx ce : Nat → Int) : Nat → Int
  | 0 => 0
  | i + 1 => if chkTo t idx ce i = 0 then stepE t idx ce i else chkTo t idx ce i
/-- the error of n pieces of which k are needed -/
def chkAll (k t : Int) (idx ce : Nat → Int) (n : Nat) : Int := if chkTo t idx ce n = 0 then (if (n : Int) < k then 12 else 0) else chkTo t idx ce n
theorem chkTo_stop {t : Int} {idx ce : Nat → Int} {i : Nat} (h : chkTo t idx ce i = 0) (h2 : stepE t idx ce i ≠ 0) : ∀ n, i < n → chkTo t idx ce n = stepE t idx ce i
  | 0, hn => absurd hn (Nat.not_lt_zero i)
  | n + 1, hn => by
    unfold chkTo
    by_cases e : i = n
    · subst e; rw [if_pos h]
    · rw [chkTo_stop h h2 n (by omega), if_neg h2]
theorem chkAll_stop {k t : Int} {idx ce : Nat → Int} {i n : Nat} (h : chkTo t idx ce i = 0) (h2 : stepE t idx ce i ≠ 0) (hn : i < n) : chkAll k t idx ce n = stepE t idx ce i := by
  unfold chkAll
  rw [chkTo_stop h h2 n hn, if_neg h2]
theorem chkTo_next {t : Int} {idx ce : Nat → Int} {i : Nat} (h : chkTo t idx ce i = 0) (h2 : stepE t idx ce i = 0) : chkTo t idx ce (i + 1) = 0 := by
  unfold chkTo
  rw [if_pos h, h2]
/-- the flags -/
def flags (idx : Nat → Int) (i : Nat) : Array Value := ((List.range 255).map fun v => Value.bool (occ idx i (v : Nat))).toArray
theorem flags_zero (idx : Nat → Int) : flags idx 0 = Array.replicate 255 (.bool false) := by
  apply Array.ext'
  rw [Array.toList_replicate, List.eq_replicate_iff]
  refine ⟨?_, fun b hb => ?_⟩
  · show ((List.range 255).map _).length = 255
    rw [List.length_map, List.length_range]
  · obtain ⟨x, _, rfl⟩ := List.mem_map.1 hb
    rfl
theorem flags_get (idx : Nat → Int) (i v : Nat) (hv : v < 255) : (flags idx i)[v]? = some (.bool (occ idx i v)) := by
  unfold flags
  simp [List.getElem?_range hv]
theorem flags_set (idx : Nat → Int) (i v : Nat) (hv : v < 255) (h : idx i = v) : (flags idx i).setIfInBounds v (.bool true) = flags idx (i + 1) := by
  apply Array.ext'
  unfold flags
  rw [Array.toList_setIfInBounds]
  apply List.ext_getElem?
  intro j
  rw [List.getElem?_set]
  by_cases e : v = j
  · subst e
    simp [hv, occ_succ, h]
  · rw [if_neg e]
    by_cases hj : j < 255
    · simp [hj, occ_succ, h]
      intro e2; omega
    · rw [List.getElem?_eq_none (by simp; omega), List.getElem?_eq_none (by simp; omega)]

theorem lenIs_any (a : Option Addr) (n c lb : Nat) (L : Int) (w : World) (hL : w.cell? ⟨lb, 0, none⟩ = some (.int .i64 L)) :
    Calls Tryd.prog 51 #[.slice a n c, .pointer (some ⟨lb, 0, none⟩)] w fun e w' => e = .returned (.int .i64 (if (n : Int) = L then 0 else 10)) ∧ w = w' := by
  by_cases h : (n : Int) = L
  · have b1 : ((n : Int) != L) = false := by simp [h]
    have H := hid h
    clear h
    go_enter Tryd.func51, Tryd.ntmps51
    go_wp2
    go_ret
    exact ⟨rfl, rfl⟩
  · have b1 : ((n : Int) != L) = true := by simp [h]
    have H := hid h
    clear h
    go_enter Tryd.func51, Tryd.ntmps51
    go_wp2
    go_ret
    exact ⟨rfl, rfl⟩

/-- what a list of pieces gives: the numbers -/
def pidx (ps : List (Int × Sl)) (i : Nat) : Int := (ps.getD i (0, none, 0, 0)).1
def plen' (ps : List (Int × Sl)) (i : Nat) : Nat := (ps.getD i (0, none, 0, 0)).2.2.1
theorem pidx_at (ps : List (Int × Sl)) (i : Nat) (h : i < ps.length) : ps[i].1 = pidx ps i := by
  unfold pidx
  rw [List.getD_eq_getElem?_getD, List.getElem?_eq_getElem h]; rfl
theorem plen_at (ps : List (Int × Sl)) (i : Nat) (h : i < ps.length) : ps[i].2.2.1 = plen' ps i := by
  unfold plen'
  rw [List.getD_eq_getElem?_getD, List.getElem?_eq_getElem h]; rfl

theorem zero_flags (idx : Nat → Int) : Tryd.zeroCells120 = flags idx 0 := by
  rw [flags_zero]
  kernel_rfl
/-- what the loop keeps -/
structure ChkI (k t : Int) (idx ce : Nat → Int) (w wr : World) (i : Nat) : Prop where
  seen : wr.heap[w.heap.size]? = some (.cells (flags idx i) 120 (0, 0))
  below : Below w.heap.size w wr
  clean : chkTo t idx ce i = 0
theorem bel_sa {w wr : World} (h : Below w.heap.size w wr) (v : Nat) (u : Value) (o : Obj) : Below w.heap.size w ((wr.setCell ⟨w.heap.size, v, none⟩ u).alloc o) :=
  (h.setCell (p := ⟨w.heap.size, v, none⟩) (Nat.le_refl _) u).alloc (by simp; exact h.size) o
theorem ChkI.next {k t : Int} {idx ce : Nat → Int} {w wr : World} {i v : Nat} (h : ChkI k t idx ce w wr i) (o : Obj) (hv : idx i = v) (hv2 : v < 255) (ht : idx i < t) (hocc : occ idx i v = false) (hce : ce i = 0) : ChkI k t idx ce w ((wr.setCell ⟨w.heap.size, v, none⟩ (.bool true)).alloc o) (i + 1) := by
  refine ⟨heap_alloc ?_ o, bel_sa h.below v _ o, chkTo_next h.clean ?_⟩
  · have h5 := heap_set h.seen v (.bool true)
    rwa [flags_set idx i v hv2 hv] at h5
  · unfold stepE
    rw [if_neg (by omega), hv, if_neg (by rw [hocc]; decide), hce]

set_option maxRecDepth 100000 in
set_option maxHeartbeats 2000000 in
theorem chkD_any (k t : Int) (a : Option Addr) (n c lb : Nat) (L : Int) (ps : List (Int × Sl)) (w : World) (ht : t ≤ 255) (hp : Ps w (.slice a n c) ps) (hL : w.cell? ⟨lb, 0, none⟩ = some (.int .i64 L)) (hlb : lb < w.heap.size) (hn : n ≤ 100000) :
    Calls Tryd.prog 50 #[.int .i64 k, .int .i64 t, .slice a n c, .func (.func 51) #[] #[.pointer (some ⟨lb, 0, none⟩)]] w fun e w' => e = .returned (.int .i64 (chkAll k t (pidx ps) (fun i => if ((plen' ps i : Nat) : Int) = L then 0 else 10) n)) ∧ Below w.heap.size w w' := by
  have hnp : n = ps.length := by obtain ⟨_, _, h, _⟩ := hp; simp at h; exact h.2.1
  have HN := hid hnp
  have HP := hid hp
  have HL := hid hL
  clear hnp hp hL
  obtain ⟨ce, hce⟩ : ∃ ce : Nat → Int, ce = fun i => if ((plen' ps i : Nat) : Int) = L then 0 else 10 := ⟨_, rfl⟩
  have HCE := hid hce
  rw [← hce]
  clear hce
  have h0 : ChkI k t (pidx ps) ce w (w.alloc (.cells Tryd.zeroCells120 120)) 0 := ⟨by rw [zero_flags (pidx ps)]; exact heap_new _ _, (Below.refl _ _).alloc (Nat.le_refl _) _, rfl⟩
  have HINV := hid h0
  clear h0
  go_enter Tryd.func50, Tryd.ntmps50
  go_wp2
  go_loopw [15] (fun iv wr => ∃ i : Nat, i ≤ n ∧ iv = .int .i64 i ∧ Hid (ChkI k t (pidx ps) ce w wr i)) (fun iv _ => n - (intOf iv).toNat)
  case atStart => exact ⟨0, by omega, rfl, HINV⟩
  case round =>
    clear HINV
    obtain ⟨i, hi, rfl, HINV⟩ := hrel
    by_cases hlt : i < n
    · have HPr := HP.out.below HINV.out.below
      obtain ⟨b, o, rfl⟩ : ∃ b o, a = some ⟨b, o, none⟩ := by
        obtain ⟨a', c', h1, h3⟩ := HPr
        obtain ⟨b, o, ha, _⟩ := h3 (by intro e; rw [e] at HN; have := HN.out; simp at this; omega)
        simp at h1
        exact ⟨b, o, h1.1.trans ha⟩
      have hcs := HPr.cells i (by rw [← HN.out]; exact hlt)
      obtain ⟨q0, q1⟩ := hcs
      rw [pidx_at] at q0
      rw [plen_at] at q1
      have hsz : w.heap.size < wr.heap.size := lt_of_heap HINV.out.seen
      clear HPr
      generalize hda : (ps[i]'_).2.1 = da at *
      generalize hdc : (ps[i]'_).2.2.2 = dc at *
      clear hda hdc
      by_cases hbad : pidx ps i < 0 ∨ t ≤ pidx ps i
      · have hst : chkAll k t (pidx ps) ce n = 2 := by
          have h2 : stepE t (pidx ps) ce i = 2 := by unfold stepE; rw [if_pos hbad]
          rw [chkAll_stop HINV.out.clean (by rw [h2]; decide) hlt, h2]
        have HST := hid hst
        clear hst
        have hbe := HINV.out.below
        generalize pidx ps i = v at *
        by_cases h0 : v < 0
        · clear hbad
          go_wp2
          go_ret
          exact ⟨ret_int HST.out.symm, hbe.alloc hbe.size _⟩
        · have h1 : t ≤ v := by omega
          clear hbad
          go_wp2
          go_ret
          exact ⟨ret_int HST.out.symm, hbe.alloc hbe.size _⟩
      · obtain ⟨v, hv⟩ : ∃ v : Nat, pidx ps i = v := ⟨(pidx ps i).toNat, by omega⟩
        have hvt : (v : Int) < t := by omega
        have hv2 : v < 255 := by omega
        have cv := cell_of_heap HINV.out.seen v
        rw [flags_get _ _ _ hv2] at cv
        have fv := free_of_heap HINV.out.seen v
        have hbe := HINV.out.below
        rw [hv] at q0
        have HV := hid hv
        clear hbad hv
        by_cases hoc : occ (pidx ps) i v = true
        · rw [hoc] at cv
          have hst : chkAll k t (pidx ps) ce n = 7 := by
            have h2 : stepE t (pidx ps) ce i = 7 := by unfold stepE; rw [if_neg (by rw [HV.out]; omega), HV.out, if_pos hoc]
            rw [chkAll_stop HINV.out.clean (by rw [h2]; decide) hlt, h2]
          have HST := hid hst
          clear hst hoc
          go_wp2
          go_ret
          exact ⟨ret_int HST.out.symm, hbe.alloc hbe.size _⟩
        · have hoc : occ (pidx ps) i v = false := by simpa using hoc
          rw [hoc] at cv
          have HOC := hid hoc
          clear hoc
          go_wp2_with fail
          refine (lenIs_any _ _ _ lb L _ ?_).mono ?_
          · exact ((bel_sa hbe v _ _).cell (p := ⟨lb, 0, none⟩) hlb).trans HL.out
          rintro e w5 ⟨rfl, rfl⟩
          by_cases hln : ((plen' ps i : Nat) : Int) = L
          · have NX := hid (HINV.out.next (Obj.cells #[.int .i64 v, .slice da (plen' ps i) dc] 44) HV.out hv2 (by rw [HV.out]; exact hvt) HOC.out (by rw [HCE.out]; exact if_pos hln))
            rw [if_pos hln]
            clear hln cv fv q0 q1
            go_wp2
            exact ⟨⟨i + 1, by omega, by go_num, NX⟩, by simp [intOf]; omega⟩
          · rw [if_neg hln]
            have hst : chkAll k t (pidx ps) ce n = 10 := by
              have h2 : stepE t (pidx ps) ce i = 10 := by unfold stepE; rw [if_neg (by rw [HV.out]; omega), HV.out, if_neg (by rw [HOC.out]; decide), HCE.out]; exact if_neg hln
              rw [chkAll_stop HINV.out.clean (by rw [h2]; decide) hlt, h2]
            have HST := hid hst
            clear hst hln cv fv q0 q1
            go_wp2
            go_ret
            exact ⟨ret_int HST.out.symm, bel_sa hbe v _ _⟩
    · obtain rfl : i = n := by omega
      have hbe := HINV.out.below
      by_cases hk : (i : Int) < k
      · have hst : chkAll k t (pidx ps) ce i = 12 := by unfold chkAll; rw [if_pos HINV.out.clean, if_pos hk]
        have HST := hid hst
        clear hst
        go_wp2
        go_ret
        exact ⟨ret_int HST.out.symm, hbe⟩
      · have hst : chkAll k t (pidx ps) ce i = 0 := by unfold chkAll; rw [if_pos HINV.out.clean, if_neg hk]
        have HST := hid hst
        clear hst
        go_wp2
        go_ret
        exact ⟨ret_int HST.out.symm, hbe⟩
/-- the error of a piece's bytes, by the first one's length -/
def alikeL (L0 n : Nat) : Int := if 8192 < n then 3 else if n = L0 then 0 else 10
def alikeE (ps : List (Int × Sl)) (i : Nat) : Int := alikeL (plen' ps 0) (plen' ps i)
theorem alike_any (a : Option Addr) (n c lb : Nat) (m mc : Nat) (w : World) (b o : Nat) (da : Option Addr) (dc L0 : Nat) (hL : w.cell? ⟨lb, 0, none⟩ = some (.slice (some ⟨b, o, none⟩) m mc)) (hm : 0 < m) (h0 : w.cell? ⟨b, o + 1, none⟩ = some (.slice da L0 dc)) :
    Calls Tryd.prog 76 #[.slice a n c, .pointer (some ⟨lb, 0, none⟩)] w fun e w' => e = .returned (.int .i64 (alikeL L0 n)) ∧ w = w' := by
  unfold alikeL
  by_cases h1 : 8192 < n
  · have b1 : decide ((8192 : Int) < (n : Int)) = true := by simp; omega
    rw [if_pos h1]
    go_enter Tryd.func76, Tryd.ntmps76
    go_wp2
    go_ret
    exact ⟨rfl, rfl⟩
  · have b1 : decide ((8192 : Int) < (n : Int)) = false := by simp; omega
    rw [if_neg h1]
    by_cases h : n = L0
    · have b2 : ((n : Int) != (L0 : Int)) = false := by simp [h]
      rw [if_pos h]
      have H := hid h
      clear h
      go_enter Tryd.func76, Tryd.ntmps76
      go_wp2
      go_ret
      exact ⟨rfl, rfl⟩
    · have b2 : ((n : Int) != (L0 : Int)) = true := by simp; omega
      rw [if_neg h]
      have H := hid h
      clear h
      go_enter Tryd.func76, Tryd.ntmps76
      go_wp2
      go_ret
      exact ⟨rfl, rfl⟩

set_option maxRecDepth 100000 in
set_option maxHeartbeats 2000000 in
theorem chkA_any (k t : Int) (a : Option Addr) (n c lb : Nat) (ps : List (Int × Sl)) (w : World) (ht : t ≤ 255) (hp : Ps w (.slice a n c) ps) (hL : w.cell? ⟨lb, 0, none⟩ = some (.slice a n c)) (hlb : lb < w.heap.size) (hn : n ≤ 100000) :
    Calls Tryd.prog 50 #[.int .i64 k, .int .i64 t, .slice a n c, .func (.func 76) #[] #[.pointer (some ⟨lb, 0, none⟩)]] w fun e w' => e = .returned (.int .i64 (chkAll k t (pidx ps) (alikeE ps) n)) ∧ Below w.heap.size w w' := by
  have hnp : n = ps.length := by obtain ⟨_, _, h, _⟩ := hp; simp at h; exact h.2.1
  have HN := hid hnp
  have HP := hid hp
  have HL := hid hL
  clear hnp hp hL
  obtain ⟨ce, hce⟩ : ∃ ce : Nat → Int, ce = alikeE ps := ⟨_, rfl⟩
  have HCE := hid hce
  rw [← hce]
  clear hce
  have h0 : ChkI k t (pidx ps) ce w (w.alloc (.cells Tryd.zeroCells120 120)) 0 := ⟨by rw [zero_flags (pidx ps)]; exact heap_new _ _, (Below.refl _ _).alloc (Nat.le_refl _) _, rfl⟩
  have HINV := hid h0
  clear h0
  go_enter Tryd.func50, Tryd.ntmps50
  go_wp2
  go_loopw [15] (fun iv wr => ∃ i : Nat, i ≤ n ∧ iv = .int .i64 i ∧ Hid (ChkI k t (pidx ps) ce w wr i)) (fun iv _ => n - (intOf iv).toNat)
  case atStart => exact ⟨0, by omega, rfl, HINV⟩
  case round =>
    clear HINV
    obtain ⟨i, hi, rfl, HINV⟩ := hrel
    by_cases hlt : i < n
    · have HPr := HP.out.below HINV.out.below
      obtain ⟨b, o, rfl⟩ : ∃ b o, a = some ⟨b, o, none⟩ := by
        obtain ⟨a', c', h1, h3⟩ := HPr
        obtain ⟨b, o, ha, _⟩ := h3 (by intro e; rw [e] at HN; have := HN.out; simp at this; omega)
        simp at h1
        exact ⟨b, o, h1.1.trans ha⟩
      have hcs := HPr.cells i (by rw [← HN.out]; exact hlt)
      obtain ⟨q0, q1⟩ := hcs
      rw [pidx_at] at q0
      rw [plen_at] at q1
      have hsz : w.heap.size < wr.heap.size := lt_of_heap HINV.out.seen
      clear HPr
      generalize hda : (ps[i]'_).2.1 = da at *
      generalize hdc : (ps[i]'_).2.2.2 = dc at *
      clear hda hdc
      by_cases hbad : pidx ps i < 0 ∨ t ≤ pidx ps i
      · have hst : chkAll k t (pidx ps) ce n = 2 := by
          have h2 : stepE t (pidx ps) ce i = 2 := by unfold stepE; rw [if_pos hbad]
          rw [chkAll_stop HINV.out.clean (by rw [h2]; decide) hlt, h2]
        have HST := hid hst
        clear hst
        have hbe := HINV.out.below
        generalize pidx ps i = v at *
        by_cases h0 : v < 0
        · clear hbad
          go_wp2
          go_ret
          exact ⟨ret_int HST.out.symm, hbe.alloc hbe.size _⟩
        · have h1 : t ≤ v := by omega
          clear hbad
          go_wp2
          go_ret
          exact ⟨ret_int HST.out.symm, hbe.alloc hbe.size _⟩
      · obtain ⟨v, hv⟩ : ∃ v : Nat, pidx ps i = v := ⟨(pidx ps i).toNat, by omega⟩
        have hvt : (v : Int) < t := by omega
        have hv2 : v < 255 := by omega
        have cv := cell_of_heap HINV.out.seen v
        rw [flags_get _ _ _ hv2] at cv
        have fv := free_of_heap HINV.out.seen v
        have hbe := HINV.out.below
        rw [hv] at q0
        have HV := hid hv
        clear hbad hv
        by_cases hoc : occ (pidx ps) i v = true
        · rw [hoc] at cv
          have hst : chkAll k t (pidx ps) ce n = 7 := by
            have h2 : stepE t (pidx ps) ce i = 7 := by unfold stepE; rw [if_neg (by rw [HV.out]; omega), HV.out, if_pos hoc]
            rw [chkAll_stop HINV.out.clean (by rw [h2]; decide) hlt, h2]
          have HST := hid hst
          clear hst hoc
          go_wp2
          go_ret
          exact ⟨ret_int HST.out.symm, hbe.alloc hbe.size _⟩
        · have hoc : occ (pidx ps) i v = false := by simpa using hoc
          rw [hoc] at cv
          have HOC := hid hoc
          clear hoc
          go_wp2_with fail
          have hz := (HP.out.below (bel_sa hbe v (.bool true) (Obj.cells #[.int .i64 v, .slice da (plen' ps i) dc] 44))).cells 0 (by rw [← HN.out]; omega)
          have hz1 := hz.2
          rw [plen_at, Nat.zero_mul, Nat.add_zero] at hz1
          refine (alike_any _ _ _ lb n c _ b o _ _ (plen' ps 0) ?_ (by omega) hz1).mono ?_
          · exact ((bel_sa hbe v _ _).cell (p := ⟨lb, 0, none⟩) hlb).trans HL.out
          clear hz hz1
          rintro e w5 ⟨rfl, rfl⟩
          by_cases hln : alikeL (plen' ps 0) (plen' ps i) = 0
          · have NX := hid (HINV.out.next (Obj.cells #[.int .i64 v, .slice da (plen' ps i) dc] 44) HV.out hv2 (by rw [HV.out]; exact hvt) HOC.out (by rw [HCE.out]; exact hln))
            rw [hln]
            clear hln cv fv q0 q1
            go_wp2
            exact ⟨⟨i + 1, by omega, by go_num, NX⟩, by simp [intOf]; omega⟩
          · have hst : chkAll k t (pidx ps) ce n = alikeL (plen' ps 0) (plen' ps i) := by
              have h2 : stepE t (pidx ps) ce i = alikeL (plen' ps 0) (plen' ps i) := by unfold stepE; rw [if_neg (by rw [HV.out]; omega), HV.out, if_neg (by rw [HOC.out]; decide), HCE.out]; rfl
              rw [chkAll_stop HINV.out.clean (by rw [h2]; exact hln) hlt, h2]
            have HST := hid hst
            have bn : (alikeL (plen' ps 0) (plen' ps i) != 0) = true := by simpa using hln
            clear hst hln cv fv q0 q1
            generalize alikeL (plen' ps 0) (plen' ps i) = ee at *
            go_wp2
            go_ret
            exact ⟨ret_int HST.out.symm, bel_sa hbe v _ _⟩
    · obtain rfl : i = n := by omega
      have hbe := HINV.out.below
      by_cases hk : (i : Int) < k
      · have hst : chkAll k t (pidx ps) ce i = 12 := by unfold chkAll; rw [if_pos HINV.out.clean, if_pos hk]
        have HST := hid hst
        clear hst
        go_wp2
        go_ret
        exact ⟨ret_int HST.out.symm, hbe⟩
      · have hst : chkAll k t (pidx ps) ce i = 0 := by unfold chkAll; rw [if_pos HINV.out.clean, if_neg hk]
        have HST := hid hst
        clear hst
        go_wp2
        go_ret
        exact ⟨ret_int HST.out.symm, hbe⟩

set_option maxRecDepth 100000 in
theorem checkAlike_any (k t : Int) (a : Option Addr) (n c : Nat) (ps : List (Int × Sl)) (w : World) (ht : t ≤ 255) (hp : Ps w (.slice a n c) ps) (hn : n ≤ 100000) :
    Calls Tryd.prog 61 #[.int .i64 k, .int .i64 t, .slice a n c] w fun e w' => e = .returned (.int .i64 (chkAll k t (pidx ps) (alikeE ps) n)) ∧ Below w.heap.size w w' := by
  have HP := hid hp
  clear hp
  have hmf : ∀ (fn : Fn) (first cap : Array Value) (w : World), (Instr.makeFunc fn first cap).run Tryd.prog w = .ok (.func fn first cap) w := fun _ _ _ _ => rfl
  go_enter Tryd.func61, Tryd.ntmps61
  go_wp2_with fail
  refine (chkA_any k t a n c w.heap.size ps _ ht (HP.out.below ((Below.refl _ _).alloc (Nat.le_refl _) _)) (by simp [World.cell?_alloc_new]) (by simp) hn).mono ?_
  rintro e w5 ⟨rfl, hb⟩
  go_wp2
  go_ret
  exact ⟨rfl, ((Below.refl _ _).alloc (Nat.le_refl _) _).trans (hb.mono (by simp))⟩
end Go.Proofs.YtehjikogdaclgaaDoor

namespace Go.Proofs.YtehjikogdaclgaaDoor
open Go Go.RowKit
open Go.Maps (Keyed)
set_option linter.unusedVariables false

theorem plainElem_bool_invS {H : Type} {P : Program} {e : TypeId} (he : P.underlying e = some .bool) {v : Value} {z : DataW H × List MemPlace} (h : plainElem P e v = some z) : ∃ a, v = .bool a ∧ z = (.lit (.bool a), []) := by
  unfold plainElem at h
  rw [he] at h
  cases v <;> simp at h
  subst h
  exact ⟨_, rfl, rfl⟩
/-- a map's look-up at elements of type bool -/
theorem wpList_lookup_own_boolS {H : Type} {P : Program} (w : World) {ops : Array Oper} {rest : List Oper} {o : Oper} {a : Act} {Q : Exit → Act → World → Prop}
    (hg : o.guard = none) (m x : Operand) (t : TypeId) (hop : o.op = Op.lookup t m x false)
    (k e : TypeId) (K : Keyed P k) (ht : P.underlying t = some (.map k e)) (he : P.underlying e = some .bool) (hz : (zeroValue e).run P w = .ok (.bool false) w) (b n : Nat) (D : DataW H)
    (hm : a.eval m = .map (some b)) (hown : w.ownsMap P k (plainElem P e) b n D) (key : Value) (kl : Lit) (hx : a.eval x = key) (hkey : keyOf P k key = some kl)
    (hK : ∀ c : Bool, D.atKey kl (.lit (.bool false)) = .lit (.bool c) → wpList P ops Q rest (a.put o.dst (.bool c)) w) :
    wpList P ops Q (o :: rest) a w := by
  refine wpList_plain hg fun K' hK' => ?_
  obtain ⟨v, ps, hrun, hv⟩ := hown.lookup K ht hz (plainElem_bool he false) hkey
  obtain ⟨c, rfl, hc⟩ := plainElem_bool_invS he hv
  simp only [Prod.mk.injEq] at hc
  unfold Oper.wp
  simp [execOp, hop, hm, hx, hrun, Result.andThen]
  exact hK' _ _ (hK c hc.1)

/-- the numbers that have occurred -/
def seenD (idx : Nat → Int) : Nat → DataW Unit
  | 0 => .map []
  | i + 1 => (seenD idx i).put (.int .i64 (idx i)) (.lit (.bool true))
theorem seenD_map (idx : Nat → Int) : ∀ i, Maps.IsMap (seenD idx i)
  | 0 => Maps.isMap_empty
  | i + 1 => (seenD_map idx i).put _ _
theorem seenD_at (idx : Nat → Int) (v : Int) : ∀ i, (seenD idx i).atKey (.int .i64 v) (.lit (.bool false)) = .lit (.bool (occ idx i v))
  | 0 => by rfl
  | i + 1 => by
    unfold seenD
    rw [occ_succ]
    by_cases h : idx i = v
    · subst h
      rw [Maps.atKey_put_same (seenD_map idx i) (show WideAt.IsKeyLit (.int .i64 (idx i)) from trivial)]
      simp
    · rw [Maps.atKey_put_other (by intro e; injection e with _ e2; exact h e2.symm), seenD_at idx v i]
      simp [h]
theorem keyed_intS : Keyed Tryd.prog 3 := Maps.int_keyed Tryd.underlying3
end Go.Proofs.YtehjikogdaclgaaDoor

namespace Go.Proofs.YtehjikogdaclgaaDoor
open Go Go.RowKit
set_option linter.unusedVariables false

set_option maxRecDepth 100000 in
set_option maxHeartbeats 2000000 in
theorem sizes_any (k n t : Int) (w : World) :
    Calls Tryd.prog 24 #[.int .i64 k, .int .i64 n, .int .i64 t] w fun e w' => e = .returned (.bool (vcB k n t)) ∧ w = w' := by
  by_cases h1 : 1 ≤ k
  case neg =>
    have HB := hid (show vcB k n t = false from by unfold vcB; exact decide_eq_false (fun h => h1 h.1))
    go_enter Tryd.func24, Tryd.ntmps24
    go_wp2
    go_ret
    exact ⟨by rw [HB.out]; rfl, rfl⟩
  by_cases h2 : k ≤ n
  case neg =>
    have HB := hid (show vcB k n t = false from by unfold vcB; exact decide_eq_false (fun h => h2 h.2.1))
    go_enter Tryd.func24, Tryd.ntmps24
    go_wp2
    go_ret
    exact ⟨by rw [HB.out]; rfl, rfl⟩
  by_cases h3 : n ≤ t
  case neg =>
    have HB := hid (show vcB k n t = false from by unfold vcB; exact decide_eq_false (fun h => h3 h.2.2.1))
    go_enter Tryd.func24, Tryd.ntmps24
    go_wp2
    go_ret
    exact ⟨by rw [HB.out]; rfl, rfl⟩
  by_cases h4 : t ≤ 255
  case neg =>
    have HB := hid (show vcB k n t = false from by unfold vcB; exact decide_eq_false (fun h => h4 h.2.2.2))
    go_enter Tryd.func24, Tryd.ntmps24
    go_wp2
    go_ret
    exact ⟨by rw [HB.out]; rfl, rfl⟩
  have HB := hid (show vcB k n t = true from by unfold vcB; exact decide_eq_true ⟨h1, h2, h3, h4⟩)
  go_enter Tryd.func24, Tryd.ntmps24
  go_wp2
  go_ret
  exact ⟨by rw [HB.out]; rfl, rfl⟩

set_option maxRecDepth 100000 in
set_option maxHeartbeats 2000000 in
theorem valid_any (k n t s : Int) (od : List Nat) (a : Option Addr) (m c : Nat) (h : od.length = 32) (w : World) :
    Calls Tryd.prog 9 #[.agg (mcells k n t s od (.slice a m c)).toArray] w fun e w' => e = .returned (.bool (manB k n t s m)) ∧ Below w.heap.size w w' := by
  have hM : ManAt (w.alloc (.cells (mcells k n t s od (.slice a m c)).toArray 27)) w.heap.size k n t s od (.slice a m c) := heap_new _ _
  obtain ⟨c0, c1, c2, c3, c36⟩ := hM.c h
  have HB := hid ((Below.refl w.heap.size w).alloc (Nat.le_refl _) (.cells (mcells k n t s od (.slice a m c)).toArray 27))
  have HV := hid (fun w => sizes_any k n t w)
  obtain ⟨w1, hw1⟩ : ∃ w1, w1 = w.alloc (.cells (mcells k n t s od (.slice a m c)).toArray 27) := ⟨_, rfl⟩
  rw [← hw1] at c0 c1 c2 c3 c36 HB
  have HE := hid (show manB k n t s m = (vcB k n t && decide (0 ≤ s ∧ s ≤ 8192) && decide ((m : Int) = t)) from rfl)
  clear hM h
  go_enter Tryd.func9, Tryd.ntmps9
  go_upto_region 1 with fail
  change Code.wp _ _ _ _ (w.alloc (.cells (mcells k n t s od (.slice a m c)).toArray 27))
  rw [← hw1]
  clear hw1
  go_wp2_with fail
  refine (HV.out w1).mono ?_
  rintro e w2 ⟨rfl, rfl⟩
  generalize vcB k n t = b at *
  cases b with
  | false =>
    have HE2 := hid (show manB k n t s m = false from by rw [HE.out]; rfl)
    go_wp2
    go_ret
    exact ⟨by rw [HE2.out]; rfl, HB.out⟩
  | true =>
    by_cases h1 : 0 ≤ s
    case neg =>
      have HE2 := hid (show manB k n t s m = false from by rw [HE.out, decide_eq_false (fun h => h1 h.1)]; rfl)
      go_wp2
      go_ret
      exact ⟨by rw [HE2.out]; rfl, HB.out⟩
    by_cases h2 : s ≤ 8192
    case neg =>
      have HE2 := hid (show manB k n t s m = false from by rw [HE.out, decide_eq_false (fun h => h2 h.2)]; rfl)
      go_wp2
      go_ret
      exact ⟨by rw [HE2.out]; rfl, HB.out⟩
    by_cases hm : (m : Int) = t
    · have HE2 := hid (show manB k n t s m = true from by rw [HE.out, decide_eq_true ⟨h1, h2⟩, decide_eq_true hm]; rfl)
      subst hm
      go_wp2
      go_ret
      exact ⟨by rw [HE2.out]; rfl, HB.out⟩
    · have HE2 := hid (show manB k n t s m = false from by rw [HE.out, decide_eq_false hm, Bool.and_false])
      have hmb : ((m : Int) == t) = false := by simpa using hm
      go_wp2
      go_ret
      exact ⟨by rw [HE2.out]; rfl, HB.out⟩
theorem range_of_heapI {w : World} {b : Nat} {cs : List Value} {T : TypeId} (h : w.heap[b]? = some (.cells cs.toArray T (0, 0))) : w.rangeAt b 0 cs := fun j v hj => by
  rw [Nat.zero_add, cell_of_heap h, List.getElem?_toArray]
  exact hj
theorem eqItems_any (d : Nat) (l r : List Nat) (w : World) : ∀ is : List Nat, (∀ i ∈ is, i < l.length ∧ i < r.length) → (Op.eqItems (d + 1) 5 1 (u8s l).toArray (u8s r).toArray is).run Tryd.prog w = .ok (is.all fun i => l.getD i 0 == r.getD i 0) w
  | [], _ => by simp [Op.eqItems]
  | i :: is, h => by
    obtain ⟨hi, hj⟩ := h i (by simp)
    have hg : (u8s l).toArray[i * 1]? = some (.int .u8 ((l.getD i 0 : Nat) : Int)) := by
      simp [u8s, hi]
    have hg' : (u8s r).toArray[i * 1]? = some (.int .u8 ((r.getD i 0 : Nat) : Int)) := by
      simp [u8s, hj]
    have hp := run_part_plain (P := Tryd.prog) w (e := 5) (by kernel_rfl) hg
    have hp' := run_part_plain (P := Tryd.prog) w (e := 5) (by kernel_rfl) hg'
    have he := run_equalIn_int (P := Tryd.prog) w d 5 .u8 .u8 ((l.getD i 0 : Nat) : Int) ((r.getD i 0 : Nat) : Int) Tryd.underlying5
    have ih := eqItems_any d l r w is (fun j hj => h j (by simp [hj]))
    by_cases hlr : l.getD i 0 = r.getD i 0
    · have e1 : ((((l.getD i 0 : Nat) : Int)) == ((r.getD i 0 : Nat) : Int)) = true := by rw [hlr]; simp
      have e2 : (l.getD i 0 == r.getD i 0) = true := by rw [hlr]; simp
      rw [List.all_cons, e2, Bool.true_and]
      simp only [Op.eqItems, Sem.run_bind, hp, hp', he, e1, Result.andThen_ok, Bool.not_true, Bool.false_eq_true, if_false, ih]
    · have e1 : ((((l.getD i 0 : Nat) : Int)) == ((r.getD i 0 : Nat) : Int)) = false := by rw [beq_eq_false_iff_ne]; omega
      have e2 : (l.getD i 0 == r.getD i 0) = false := by rw [beq_eq_false_iff_ne]; exact hlr
      rw [List.all_cons, e2, Bool.false_and]
      simp only [Op.eqItems, Sem.run_bind, hp, hp', he, e1, Result.andThen_ok, Bool.not_false, if_true, Sem.run_pure]
theorem all_range_eq (l r : List Nat) (h : l.length = 32) (h' : r.length = 32) : ((List.range 32).all fun i => l.getD i 0 == r.getD i 0) = decide (l = r) := by
  by_cases hlr : l = r
  · subst hlr
    simp
  · rw [decide_eq_false hlr]
    cases hb : ((List.range 32).all fun i => l.getD i 0 == r.getD i 0) with
    | false => rfl
    | true =>
      refine absurd ?_ hlr
      refine List.ext_getElem (h.trans h'.symm) fun i h1 h2 => ?_
      have h3 := List.all_eq_true.1 hb i (List.mem_range.2 (by omega))
      have h4 := eq_of_beq h3
      rw [List.getD_eq_getElem?_getD, List.getD_eq_getElem?_getD, List.getElem?_eq_getElem h1, List.getElem?_eq_getElem h2] at h4
      exact h4
theorem eql_any (l r : List Nat) (h : l.length = 32) (h' : r.length = 32) (w : World) : (Op.equalIn 10000 24 (.agg (u8s l).toArray) (.agg (u8s r).toArray)).run Tryd.prog w = .ok (decide (l = r)) w := by
  have hi0 : (Tryd.prog.info? 5).map (·.size) = some 1 := by kernel_rfl
  obtain ⟨i, hi, _⟩ := Option.map_eq_some_iff.1 hi0
  have hc : Tryd.prog.cellsOf 5 = 1 := by kernel_rfl
  rw [show (10000 : Nat) = 9999 + 1 from rfl, run_equalIn_array w 9999 _ _ Tryd.underlying24 hi, hc]
  rw [← all_range_eq l r h h']
  exact eqItems_any 9998 l r w (List.range 32) fun j hj => by
    have h9 : j < 32 := List.mem_range.1 hj
    omega
end Go.Proofs.YtehjikogdaclgaaDoor
