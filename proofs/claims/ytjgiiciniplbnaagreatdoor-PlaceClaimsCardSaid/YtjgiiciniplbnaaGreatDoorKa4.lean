/-
  EncodeManifest. · PieceDigest. · Memory of Make: digests in a row, stored one by one; ranges of cells. · Comparing ranks: bytes.Compare, cmp.Compare and cmp.Or by their contracts, compareRanks of any two ranks. The worlds are told to the letter: a sort asks it. · compareRanks of any two ranks. · string(bytes) of bytes that read as a list. · Make: the region in which the manifest is made: every order. · Make: the manifest and the pieces of an object. · NewField.
-/
import Derived.Test.YtjgiiciniplbnaaGreatDoorKa3
import Derived.Test.YtjgiiciniplbnaaGreatDoorKa2
import Derived.Deep.RegionHeld3
import Derived.Deep.RegionWith
import Derived.Test.YtjgiiciniplbnaaGreatDoorKa1
import Derived.IntWalk
import Derived.Laws.BytesArg
import Derived.Deep.DeepCutAuto
namespace Go.Proofs.YtjgiiciniplbnaaGreatDoor
open Go Go.RowKit
set_option linter.unusedVariables false

/-- a Writer that began in world w0 and has not failed -/
def EncI (w0 wx : World) (lim : Nat) (l : List Nat) : Prop := ∃ v, WrAt wx w0.heap.size lim v l false ∧ Below w0.heap.size w0 wx
theorem EncI.step {w0 wx w' : World} {lim : Nat} {v : Value} {l bs : List Nat} (W : WrAt wx w0.heap.size lim v l false) (hb : Below w0.heap.size w0 wx) (h : Added w0.heap.size lim v l false bs wx w') (hf : l.length + bs.length ≤ lim) : EncI w0 w' lim (l ++ bs) := by
  obtain ⟨v', h1, h2, h3⟩ := h
  have e : wadd lim l false bs = (l ++ bs, false) := by unfold wadd; rw [if_neg (by simp; omega)]
  rw [e] at h1
  refine ⟨v', h1, hb.trans (h2.below hb.size (Nat.le_refl _) (fun k hk => ?_))⟩
  have := (W.own.lt k hk).1
  omega
/-- digests in memory, one behind the other -/
def DgAt (w : World) (v : Value) (D : List (List Nat)) : Prop := ∃ a c, v = .slice a D.length c ∧ (∀ d ∈ D, d.length = 32 ∧ ∀ x ∈ d, x < 256) ∧ (D ≠ [] → ∃ b o, a = some ⟨b, o, none⟩ ∧ ∀ j, j < D.length → w.rangeAt b (o + j * 32) (u8s (D.getD j [])))
theorem ManAt.od {w : World} {b : Nat} {k n t s : Int} {od : List Nat} {v : Value} (M : ManAt w b k n t s od v) (h : od.length = 32) (hl : ∀ x ∈ od, x < 256) : Bs w (.slice (some ⟨b, 4, none⟩) 32 32) od := by
  refine ⟨some ⟨b, 4, none⟩, 32, by rw [h], hl, fun _ => ⟨b, 4, rfl, fun i hi => ?_⟩⟩
  rw [cell_of_heap M, List.getElem?_toArray]
  unfold mcells
  rw [List.append_assoc, List.getElem?_append_right (by simp), List.getElem?_append_left (by simp [u8s]; omega)]
  simp [u8s, hi]
theorem WrAt.below {w w' : World} {wb lim : Nat} {v : Value} {l : List Nat} {f : Bool} (W : WrAt w wb lim v l f) (k : Below w.heap.size w w') : WrAt w' wb lim v l f :=
  ⟨(k.block _ W.lt_size).trans W.at_, W.own.kept (row := none) ⟨k.os, k.tape, k.output, k.size, fun i hi _ => k.block i hi⟩ (by cases v.ownBlock <;> simp), W.lt, W.fit, W.cap⟩
theorem beL_one (x : Nat) (h : x < 256) : beL x 1 = [x] := by
  simp [beL, beB, List.range_succ, Nat.mod_eq_of_lt h]
theorem beL_two (x : Nat) (h : x < 65536) : beL x 2 = [x / 256, x % 256] := by
  have h2 : x / 256 % 256 = x / 256 := Nat.mod_eq_of_lt (by omega)
  simp [beL, beB, List.range_succ, h2]
theorem range_below {w w' : World} {b o : Nat} {cs : List Value} (h : w.rangeAt b o cs) (k : Below w.heap.size w w') : w'.rangeAt b o cs := fun j v hj => by
  have h1 := h j v hj
  rw [k.cell (World.block_lt_of_cell? _ _ h1)]
  exact h1
def encHead (k n t s : Nat) (od : List Nat) : List Nat := [77, 1, k, n, t, s / 256, s % 256] ++ od
def encTo (k n t s : Nat) (od : List Nat) (D : List (List Nat)) (i : Nat) : List Nat := encHead k n t s od ++ (D.take i).flatten

set_option maxRecDepth 100000 in
set_option maxHeartbeats 4000000 in
theorem EncodeM_any (k n t s : Nat) (od : List Nat) (D : List (List Nat)) (v : Value) (h : od.length = 32) (hol : ∀ x ∈ od, x < 256) (w : World) (hD : DgAt w v D) (hok : manB k n t s D.length = true) :
    Calls Tryz.prog 87 #[.agg (mcells k n t s od v).toArray] w fun e w' => ∃ u, e = .returned (.tuple #[u, .int .i64 0]) ∧ ∃ wx, Copied wx (7 + 32 * (1 + t)) (encTo k n t s od D t) u w' ∧ Below w.heap.size w wx := by
  obtain ⟨a, c, rfl, hDl, hDc⟩ := hD
  have hM : ManAt (w.alloc (.cells (mcells k n t s od (.slice a D.length c)).toArray 62)) w.heap.size k n t s od (.slice a D.length c) := heap_new _ _
  have HM := hid hM
  have HB := hid ((Below.refl w.heap.size w).alloc (Nat.le_refl _) (.cells (mcells k n t s od (.slice a D.length c)).toArray 62))
  have HIF := hid (show (Tryz.prog.info? 62).map (·.size) = some (mcells k n t s od (.slice a D.length c)).length from by rw [mcells_length _ _ _ _ _ _ h]; kernel_rfl)
  have HC := hid (fun w => CheckManifest_any k n t s od a D.length c h w)
  have hme : manE k n t s D.length = 0 := by unfold manE; rw [if_pos hok]
  rw [hme] at HC
  have hnum : 1 ≤ k ∧ k ≤ n ∧ n ≤ t ∧ t ≤ 255 ∧ s ≤ 8192 ∧ D.length = t := by
    unfold manB vnB vcB at hok
    simp only [Bool.and_eq_true, decide_eq_true_eq] at hok
    omega
  obtain ⟨w1, hw1⟩ : ∃ w1, w1 = w.alloc (.cells (mcells k n t s od (.slice a D.length c)).toArray 62) := ⟨_, rfl⟩
  rw [← hw1] at HB HM
  have hs1 : w.heap.size < w1.heap.size := by rw [hw1]; simp
  have HRA := hid (show w1.rangeAt w.heap.size 0 (mcells k n t s od (.slice a D.length c)) from fun j v hj => by
    rw [Nat.zero_add, cell_of_heap HM.out, List.getElem?_toArray]
    exact hj)
  have HH := hid h
  have HOL := hid hol
  have HDL := hid hDl
  have HDC := hid hDc
  have HN := hid hnum
  clear hM h hol hDl hDc hok hme hnum
  go_enter Tryz.func87, Tryz.ntmps87
  go_upto_region 1 with fail
  change Code.wp _ _ _ _ (w.alloc (.cells (mcells k n t s od (.slice a D.length c)).toArray 62))
  rw [← hw1]
  clear hw1
  go_wp2_with (refine wpList_load_mid (by rfl) 62 (.tmp 1) (by rfl) w.heap.size 0 (by rfl) (mcells k n t s od (.slice a D.length c)) _ HRA.out Tryz.underlying62 rfl HIF.out ?_)
  refine (HC.out w1).mono ?_
  rintro e w2 ⟨rfl, hb2⟩
  have HM2 := hid (show ManAt w2 w.heap.size k n t s od (.slice a D.length c) from (hb2.block _ hs1).trans HM.out)
  have HB2 := hid (HB.out.trans (hb2.mono (by omega)))
  obtain ⟨c0, c1, c2, c3, c36⟩ := HM2.out.c HH.out
  have hs2 : w.heap.size < w2.heap.size := Nat.lt_of_lt_of_le hs1 hb2.size
  clear hb2 HM HB HIF HC HRA
  go_wp2_with fail
  refine (manifestSize_any t (by have := HN.out; omega) w2).mono ?_
  rintro e w3 ⟨rfl, rfl⟩
  go_wp2_with fail
  refine (NewWriter_any (7 + 32 * (1 + t)) (by have := HN.out; omega) w2).mono ?_
  rintro e w3 ⟨rfl, hW3, hb3⟩
  have HCE := hid (show ∀ wx, Below w2.heap.size w2 wx → wx.cell? ⟨w.heap.size, 0, none⟩ = some (.int .i64 (k : Int)) ∧ wx.cell? ⟨w.heap.size, 1, none⟩ = some (.int .i64 (n : Int)) ∧ wx.cell? ⟨w.heap.size, 2, none⟩ = some (.int .i64 (t : Int)) ∧ wx.cell? ⟨w.heap.size, 3, none⟩ = some (.int .i64 (s : Int)) ∧ wx.cell? ⟨w.heap.size, 36, none⟩ = some (.slice a D.length c) from fun wx hb => ManAt.c ((hb.block _ hs2).trans HM2.out) HH.out)
  obtain ⟨hk1, hkn, hnt, ht, hs8, hDt⟩ := HN.out
  clear c0 c1 c2 c3 c36
  have I1 := hid (show EncI w2 w3 (7 + 32 * (1 + t)) [] from ⟨_, hW3, hb3⟩)
  clear hW3 hb3
  obtain ⟨lim, hlim⟩ : ∃ lim, lim = 7 + 32 * (1 + t) := ⟨_, rfl⟩
  rw [← hlim] at I1
  have hl40 : 39 + 32 * t ≤ lim := by omega
  have HLIM := hid hlim
  clear hlim
  have q1 : IntKind.u8.wrap (k : Int) = (k : Int) := by rw [IntKind.wrap_u8]; omega
  have q2 : IntKind.u8.wrap (n : Int) = (n : Int) := by rw [IntKind.wrap_u8]; omega
  have q3 : IntKind.u8.wrap (t : Int) = (t : Int) := by rw [IntKind.wrap_u8]; omega
  have q4 : IntKind.u16.wrap (s : Int) = (s : Int) := by rw [IntKind.wrap_u16]; omega
  obtain ⟨v1, V1, B1⟩ := I1.out
  go_wp2_with fail
  refine (U8_any w2.heap.size lim 77 v1 [] false w3 V1 (by decide)).mono ?_
  rintro e w4 ⟨rfl, hA⟩
  have hI := EncI.step V1 B1 hA (by simp [beL_length]; omega)
  have I2 := hid hI
  clear hA hI V1 B1
  obtain ⟨v2, V2, B2⟩ := I2.out
  go_wp2_with fail
  refine (U8_any w2.heap.size lim 1 v2 _ false w4 V2 (by decide)).mono ?_
  rintro e w5 ⟨rfl, hA⟩
  have hI := EncI.step V2 B2 hA (by simp [beL_length]; omega)
  have I3 := hid hI
  clear hA hI V2 B2
  obtain ⟨v3, V3, B3⟩ := I3.out
  have d0 := (HCE.out w5 B3).1
  go_wp2_with fail
  refine (U8_any w2.heap.size lim k v3 _ false w5 V3 (by show k < 256; omega)).mono ?_
  rintro e w6 ⟨rfl, hA⟩
  have hI := EncI.step V3 B3 hA (by simp [beL_length]; omega)
  have I4 := hid hI
  clear hA hI V3 B3
  obtain ⟨v4, V4, B4⟩ := I4.out
  have d1 := (HCE.out w6 B4).2.1
  go_wp2_with fail
  refine (U8_any w2.heap.size lim n v4 _ false w6 V4 (by show n < 256; omega)).mono ?_
  rintro e w7 ⟨rfl, hA⟩
  have hI := EncI.step V4 B4 hA (by simp [beL_length]; omega)
  have I5 := hid hI
  clear hA hI V4 B4
  obtain ⟨v5, V5, B5⟩ := I5.out
  have d2 := (HCE.out w7 B5).2.2.1
  go_wp2_with fail
  refine (U8_any w2.heap.size lim t v5 _ false w7 V5 (by show t < 256; omega)).mono ?_
  rintro e w8 ⟨rfl, hA⟩
  have hI := EncI.step V5 B5 hA (by simp [beL_length]; omega)
  have I6 := hid hI
  clear hA hI V5 B5
  obtain ⟨v6, V6, B6⟩ := I6.out
  have d3 := (HCE.out w8 B6).2.2.2.1
  go_wp2_with fail
  refine (U16_any w2.heap.size lim s v6 _ false w8 V6 (by show s < 65536; omega)).mono ?_
  rintro e w9 ⟨rfl, hA⟩
  have hI := EncI.step V6 B6 hA (by simp [beL_length]; omega)
  have I7 := hid hI
  clear hA hI V6 B6
  clear d0 d1 d2 d3
  obtain ⟨v7, V7, B7⟩ := I7.out
  go_wp2_with fail
  have M9 : ManAt w9 w.heap.size k n t s od (.slice a D.length c) := (B7.block _ hs2).trans HM2.out
  have hne : w.heap.size ≠ w2.heap.size := by omega
  refine (Raw_any w2.heap.size lim 32 32 (some ⟨w.heap.size, 4, none⟩) v7 _ od false w9 V7 (M9.od HH.out HOL.out) (fun h => by cases h) (by omega) (fun ad h _ => by
    cases h
    exact ⟨hne, fun e => by
      have h9 : w2.heap.size + 1 ≤ w.heap.size := (V7.own.lt _ e).1
      omega⟩)).mono ?_
  rintro e w10 ⟨rfl, hA⟩
  have hI := EncI.step V7 B7 hA (by
    have ho := HH.out
    simp only [List.length_append, List.length_nil, beL_length]
    omega)
  obtain ⟨L, hL⟩ : ∃ L, L = [] ++ beL 77 1 ++ beL 1 1 ++ beL k 1 ++ beL n 1 ++ beL t 1 ++ beL s 2 ++ od := ⟨_, rfl⟩
  rw [← hL] at hI
  have hLl : L.length = 39 := by rw [hL]; simp [beL_length, HH.out]
  have HL := hid hL
  have I8 := hid hI
  clear hA hI V7 B7 I7 M9 hL
  obtain ⟨v8, V8, B8⟩ := I8.out
  have d36 := (HCE.out w10 B8).2.2.2.2
  rw [hDt] at d36
  clear V8 B8
  have hwb : w2.heap.size ≤ w10.heap.size := by obtain ⟨_, _, B⟩ := I8.out; exact B.size
  go_wp2
  go_loopw [48] (fun iv wr => ∃ i : Nat, i ≤ t ∧ iv = .int .i64 i ∧ Hid (EncI w2 wr lim (L ++ (D.take i).flatten)) ∧ Hid ((D.take i).flatten.length = 32 * i)) (fun iv _ => t - (intOf iv).toNat)
  case atStart => exact ⟨0, by omega, rfl, hid (by simpa using I8.out), hid (by simp)⟩
  case round =>
    clear I8
    obtain ⟨i, hi, rfl, I9, HFL⟩ := hrel
    by_cases hit : i < t
    · have hI : (i : Int) < (t : Int) := by omega
      have hDne : D ≠ [] := by intro h0; rw [h0] at hDt; simp at hDt; omega
      obtain ⟨b, o, rfl, hrg⟩ := HDC.out hDne
      have hr := hrg i (by omega)
      obtain ⟨d, hd⟩ : ∃ d, d = D.getD i [] := ⟨_, rfl⟩
      have hdm : d ∈ D := by rw [hd, List.getD_eq_getElem?_getD, List.getElem?_eq_getElem (by omega)]; exact List.getElem_mem _
      obtain ⟨hd32, hdl⟩ := HDL.out d hdm
      obtain ⟨v9, V9, B9⟩ := I9.out
      rw [← hd] at hr
      have HR := hid (range_below hr (HB2.out.trans (B9.mono (by omega))))
      have HIFD := hid (show (Tryz.prog.info? 23).map (·.size) = some (u8s d).length from by rw [show (u8s d).length = 32 from by simp [u8s, hd32]]; kernel_rfl)
      have HIFA := hid (show (Tryz.prog.info? 23).map (·.size) = some (u8s d).toArray.size from by rw [List.size_toArray, show (u8s d).length = 32 from by simp [u8s, hd32]]; kernel_rfl)
      have HOLD := hid (show (u8s (List.replicate 32 0)).toArray.size = (u8s d).toArray.size from by rw [List.size_toArray, List.size_toArray]; simp [u8s, hd32])
      have HONE := hid (show (u8s d).toArray.all (·.oneCell') = true from all_oneCell_toArray (fun u hu => by
        unfold u8s at hu
        obtain ⟨y, _, rfl⟩ := List.mem_map.1 hu
        rfl))
      have HNW := hid (show (wr.alloc (.cells (u8s (List.replicate 32 0)).toArray 23)).heap[wr.heap.size]? = _ from heap_new _ _)
      have HBA := hid (B9.alloc B9.size (.cells (u8s (List.replicate 32 0)).toArray 23))
      have HST := hid (show (D.take i).flatten ++ d = (D.take (i + 1)).flatten from by
        rw [hd, List.take_add_one, List.getD_eq_getElem?_getD, List.getElem?_eq_getElem (by omega)]
        simp only [List.flatten_append, Option.toList_some, List.flatten_cons, List.flatten_nil, List.append_nil, Option.getD_some])
      have HD32 := hid hd32
      have HDLT := hid hdl
      have HV9 := hid V9
      have HB9 := hid B9
      clear hr hrg hd hdm hd32 hdl V9 B9 I9 hDne
      go_wp2_with (first
        | (refine wpList_load_mid (by rfl) 23 (.tmp 50) (by rfl) b (o + i * 32) (by rfl) (u8s d) _ HR.out Tryz.underlying23 rfl HIFD.out ?_)
        | (refine wpList_store_row (by rfl) 23 (.tmp 7) (.tmp 51) (by rfl) wr.heap.size _ (u8s d).toArray _ (by rfl) (by rfl) HNW.out HIFA.out HOLD.out HONE.out ?_
           intro w8 hw8 hk8))
      have hb8 : Below wr.heap.size wr w8 := ((Below.refl wr.heap.size wr).alloc (Nat.le_refl _) (.cells (u8s (List.replicate 32 0)).toArray 23)).trans (hk8.below (by simp) (Nat.le_refl _))
      have hbs8 : Bs w8 (.slice (some ⟨wr.heap.size, 0, none⟩) 32 32) d := ⟨some ⟨wr.heap.size, 0, none⟩, 32, by rw [HD32.out], HDLT.out, fun _ => ⟨_, 0, rfl, fun i hi => by
        rw [Nat.zero_add, cell_of_heap hw8]
        simp [u8s, hi]⟩⟩
      have V10 := HV9.out.below hb8
      have B10 := HB9.out.trans (hb8.mono HB9.out.size)
      have hlt9 := HV9.out.lt_size
      refine (Raw_any w2.heap.size lim 32 32 (some ⟨wr.heap.size, 0, none⟩) v9 _ d false w8 V10 hbs8 (fun h => by cases h) (by omega) (fun ad h _ => by
        cases h
        exact ⟨(by show wr.heap.size ≠ w2.heap.size; omega), fun e => by
          have h9 : wr.heap.size < wr.heap.size := (HV9.out.own.lt _ e).2
          omega⟩)).mono ?_
      rintro e w11 ⟨rfl, hA⟩
      have hI2 := EncI.step V10 B10 hA (by
        have h1 := HFL.out
        have h2 := HD32.out
        simp only [List.length_append]
        omega)
      rw [List.append_assoc, HST.out] at hI2
      have I10 := hid hI2
      have HFL2 := hid (show (D.take (i + 1)).flatten.length = 32 * (i + 1) from by
        have h1 := HFL.out
        have h2 := HD32.out
        rw [← HST.out, List.length_append]
        omega)
      clear hI2 hA V10 B10 hbs8 hb8 hw8 hk8 hlt9
      go_wp2
      exact ⟨⟨i + 1, by omega, by go_num, I10, HFL2⟩, by simp [intOf]; omega⟩
    · have hit2 : i = t := by omega
      obtain ⟨v9, V9, B9⟩ := I9.out
      have HEQ := hid (show L ++ (D.take i).flatten = encTo k n t s od D t from by
        rw [HL.out, hit2]
        unfold encTo encHead
        rw [beL_one 77 (by omega), beL_one 1 (by omega), beL_one k (by omega), beL_one n (by omega), beL_one t (by omega), beL_two s (by omega)]
        rfl)
      have HLEN := hid (show (L ++ (D.take i).flatten).length = 7 + 32 * (1 + t) from by
        have h1 := HFL.out
        rw [List.length_append]
        omega)
      have HBY := hid (Bytes_any w2.heap.size lim v9 _ false wr V9)
      have HBF := hid (HB2.out.trans (B9.mono (by omega)))
      clear V9 B9
      have hI : ¬ ((i : Int) < (t : Int)) := by omega
      go_wp2_with fail
      refine HBY.out.mono ?_
      rintro e w11 hres
      obtain ⟨u, rfl, hcp⟩ := hres.2 rfl
      rw [HLEN.out, HEQ.out] at hcp
      have HCP := hid hcp
      clear hcp hres
      go_wp2
      go_ret2
      exact ⟨u, rfl, wr, HCP.out, HBF.out⟩
end Go.Proofs.YtjgiiciniplbnaaGreatDoor

namespace Go.Proofs.YtjgiiciniplbnaaGreatDoor
open Go Go.RowKit
set_option linter.unusedVariables false

set_option maxRecDepth 100000 in
set_option maxHeartbeats 1000000 in
theorem PieceDigest_any (x : Nat) (hx : x < 65536) (a : Option Addr) (n c : Nat) (KC SH l : List Nat) (w : World) (V : Vars w KC SH) (hl : Bs w (.slice a n c) l) (hc : n ≤ c) (hsz : n ≤ 800000000) :
    Calls Tryz.prog 86 #[.int .i64 (x : Int), .slice a n c] w fun e w' => e = .returned (.agg (u8s (dig KC SH ([x / 256, x % 256] ++ l))).toArray) ∧ Below w.heap.size w w' := by
  have HV := hid V
  have HL := hid hl
  have hn := hl.len
  have HN := hid hn
  obtain ⟨w1, hw1⟩ : ∃ w1, w1 = w.alloc (.cells (u8s (List.replicate 32 0)).toArray 23) := ⟨_, rfl⟩
  have hb1 : Below w.heap.size w w1 := by rw [hw1]; exact (Below.refl _ _).alloc (Nat.le_refl _) _
  have HR1 := hid (show OwnD w1 w.heap.size (List.replicate 32 0) from by rw [hw1]; exact heap_new _ _)
  have hs1 : w1.heap.size = w.heap.size + 1 := by rw [hw1]; simp
  have HB1 := hid hb1
  have HV1 := hid (V.below hb1)
  have hvlt := V.lt
  clear V hl hb1 hn
  go_enter Tryz.func86, Tryz.ntmps86
  go_wp2_with fail
  change Calls _ _ _ (w.alloc (.cells (u8s (List.replicate 32 0)).toArray 23)) _
  rw [← hw1]
  clear hw1
  refine (NewHash_any KC SH w1 HV1.out).mono ?_
  rintro e w2 ⟨rfl, hM2, hb2⟩
  have HM2 := hid hM2
  have HR2 := hid ((hb2.block w.heap.size (by omega)).trans HR1.out)
  have HB2 := hid (HB1.out.trans (hb2.mono HB1.out.size))
  have HV2 := hid (HV1.out.below hb2)
  obtain ⟨hb, hhb⟩ : ∃ hb, hb = w1.heap.size := ⟨_, rfl⟩
  rw [← hhb] at HM2 ⊢
  have HHB := hid hhb
  have h4 : hb = w.heap.size + 1 := by omega
  have HS1 := hid hs1
  clear hM2 hb2 hhb hs1
  have hbl := HL.out.below HB2.out
  have hoff : 0 < n → Off hb (.slice a n c) := fun h0 => by
    rcases HL.out.addr with ⟨h1, _⟩ | ⟨h1, b, o, c', hv⟩
    · have := HN.out; rw [h1] at this; simp at this; omega
    · simp only [Value.slice.injEq] at hv
      obtain ⟨rfl, _, _⟩ := hv
      have h1 := HL.out.cell 0 (by rw [← HN.out]; exact h0)
      have h2 := World.block_lt_of_cell? _ _ h1
      show b ≠ hb
      simp only at h2
      omega
  have HBL := hid hbl
  have HOF := hid hoff
  clear hbl hoff
  have q3 : 3 ≤ hb := by omega
  have qh : w.heap.size ≤ hb := by omega
  have qn : w.heap.size ≠ hb := by omega
  have H4 := hid h4
  clear h4
  have u1 : IntKind.u16.wrap (x : Int) = (x : Int) := by rw [IntKind.wrap_u16]; omega
  have u2 : IntKind.u8.wrap ((x : Int) / 256) = ((x / 256 : Nat) : Int) := by rw [IntKind.wrap_u8]; omega
  have u3 : IntKind.u8.wrap (x : Int) = ((x % 256 : Nat) : Int) := by rw [IntKind.wrap_u8]; omega
  have p1 : x / 256 < 256 := by omega
  have p2 : x % 256 < 256 := by omega
  obtain ⟨xh, hxh⟩ : ∃ y, y = x / 256 := ⟨_, rfl⟩
  obtain ⟨xl, hxl⟩ : ∃ y, y = x % 256 := ⟨_, rfl⟩
  rw [← hxh] at u2 p1
  rw [← hxl] at u3 p2
  have HXH := hid (fun (_ : Unit) => hxh)
  have HXL := hid (fun (_ : Unit) => hxl)
  clear hxh hxl
  have hq2 : ∀ z ∈ [xh, xl], z < 256 := fun z hz => by
    simp only [List.mem_cons, List.not_mem_nil, or_false] at hz
    rcases hz with rfl | rfl
    · exact p1
    · exact p2
  have hhb2 : hb < w2.heap.size := by obtain ⟨_, _, H, _⟩ := HM2.out; exact H.lt
  obtain ⟨w5, hw5⟩ : ∃ w5, w5 = w2.alloc (.cells (u8s [xh, xl]).toArray 5) := ⟨_, rfl⟩
  have hb5 : Below w2.heap.size w2 w5 := by rw [hw5]; exact (Below.refl _ _).alloc (Nat.le_refl _) _
  have M5 := HM2.out.same (hb5.block hb hhb2)
  have V5 := HV2.out.below hb5
  have HR5 := hid ((hb5.block w.heap.size (lt_of_heap HR2.out)).trans HR2.out)
  have BS5 : Bs w5 (.slice (some ⟨w2.heap.size, 0, none⟩) 2 2) [xh, xl] := by rw [hw5]; exact Own.bs (l := [xh, xl]) (heap_new _ _) hq2 2
  have HQ := hid (Write_gen hb 2 2 (some ⟨w2.heap.size, 0, none⟩) KC SH [] [xh, xl] w5 M5 V5 q3 BS5 (Nat.le_refl _) (fun _ => by show w2.heap.size ≠ hb; omega) (by simp))
  have HBL5 := hid (HBL.out.below hb5)
  have HB5 := hid (HB2.out.trans (hb5.mono HB2.out.size))
  have HV5 := hid V5
  have HW5 := hid (fun (_ : Unit) => hw5)
  clear M5 V5 BS5 hb5 hhb2
  go_wp2_with fail
  change Calls _ _ _ (w2.alloc (.cells (u8s [xh, xl]).toArray 5)) _
  rw [← HW5.out ()]
  refine HQ.out.mono ?_
  clear HQ
  rintro e w6 ⟨rfl, hM6, hk6⟩
  rw [List.nil_append] at hM6
  have HM6 := hid hM6
  have HR6 := hid ((hk6.block w.heap.size (lt_of_heap HR5.out) qn).trans HR5.out)
  have HV6 := hid (HV5.out.kept hk6 q3)
  have HB6 := hid (HB5.out.trans (hk6.below HB5.out.size qh))
  have HBL6 := hid (show Bs w6 (.slice a n c) l from by
    by_cases h0 : 0 < n
    · exact HBL5.out.kept hk6 (HOF.out h0)
    · have hl0 : l = [] := List.length_eq_zero_iff.1 (by have := HN.out; omega)
      have hn0 : n = 0 := by omega
      rw [hl0, hn0]
      exact bs_nilH _ _ _)
  have HQ := hid (Write_gen hb n c a KC SH [xh, xl] l w6 HM6.out HV6.out q3 HBL6.out hc HOF.out (by simp; omega))
  clear hM6 hk6
  go_wp2_with fail
  refine HQ.out.mono ?_
  clear HQ
  rintro e w3 ⟨rfl, hM3, hk3⟩
  have HM3 := hid hM3
  have HR3 := hid ((hk3.block w.heap.size (lt_of_heap HR6.out) qn).trans HR6.out)
  have HV3 := hid (HV6.out.kept hk3 q3)
  have HB3 := hid (HB6.out.trans (hk3.below HB6.out.size qh))
  clear hM3 hk3
  go_wp2_with fail
  refine (Sum_any hb KC SH ([xh, xl] ++ l) w3 HM3.out HV3.out q3 (by have := HN.out; simp; omega)).mono ?_
  rintro e w4 ⟨rfl, hb4⟩
  have HR4 := hid ((hb4.block w.heap.size (lt_of_heap HR3.out)).trans HR3.out)
  have hbe := HB3.out.trans (hb4.mono HB3.out.size)
  have hl32 := dig_length KC SH ([xh, xl] ++ l)
  generalize hD : dig KC SH ([xh, xl] ++ l) = D at *
  have HD := hid (fun (_ : Unit) => hD)
  have hl32' : (u8s D).length = 32 := by simp [u8s, hl32]
  have HIF2 := hid (show (Tryz.prog.info? 23).map (·.size) = some (u8s D).toArray.size from by rw [List.size_toArray, hl32']; kernel_rfl)
  have HOLD := hid (show (u8s (List.replicate 32 0)).toArray.size = (u8s D).toArray.size from by rw [List.size_toArray, List.size_toArray, hl32']; rfl)
  have HONE := hid (show (u8s D).toArray.all (·.oneCell') = true from all_oneCell_toArray (u8s_oneH _))
  clear hD hb4 hl32 hl32'
  go_wp2_with (refine wpList_store_row (by rfl) 23 (.tmp 4) (.tmp 22) (by rfl) w.heap.size _ (u8s D).toArray _ (by rfl) (by rfl) HR4.out HIF2.out HOLD.out HONE.out ?_
               intro w8 hw8 hk8)
  have hres : (loadVar 23 ⟨w.heap.size, 0, none⟩).run Tryz.prog w8 = .ok (.agg (u8s D).toArray) w8 := run_loadVar_row _ _ 23 23 _ (0, 0) _ hw8 Tryz.underlying23 rfl HIF2.out
  refine bodyPost_ret (v := .agg (u8s D).toArray) (results_at Tryz.results86 rfl hres) rfl ⟨by rw [← HXH.out (), ← HXL.out ()]; exact congrArg (fun z => Ending.returned (.agg (u8s z).toArray)) (HD.out ()).symm, ?_⟩
  exact hbe.trans (hk8.below hbe.size (Nat.le_refl _))
end Go.Proofs.YtjgiiciniplbnaaGreatDoor

namespace Go.Proofs.YtjgiiciniplbnaaGreatDoor
open Go Go.RowKit
set_option linter.unusedVariables false

theorem setCells_heap (b : Nat) : ∀ (vs : List Value) (o : Nat) (w : World) (k : Nat), k ≠ b → (w.setCells b o vs).heap[k]? = w.heap[k]?
  | [], _, _, _, _ => rfl
  | v :: r, o, w, k, h => (setCells_heap b r (o + 1) _ k h).trans (Below.heap_setCell _ _ _ _ h)
theorem setCells_size (b : Nat) : ∀ (vs : List Value) (o : Nat) (w : World), (w.setCells b o vs).heap.size = w.heap.size
  | [], _, _ => rfl
  | v :: r, o, w => (setCells_size b r (o + 1) _).trans (by simp [World.setCell])
theorem setCells_rest (b : Nat) : ∀ (vs : List Value) (o : Nat) (w : World), (w.setCells b o vs).os = w.os ∧ (w.setCells b o vs).tape = w.tape ∧ (w.setCells b o vs).output = w.output
  | [], _, _ => ⟨rfl, rfl, rfl⟩
  | v :: r, o, w => setCells_rest b r (o + 1) _
theorem setCells_kept (b : Nat) (vs : List Value) (o : Nat) (w : World) : Kept b w (w.setCells b o vs) :=
  ⟨(setCells_rest b vs o w).1, (setCells_rest b vs o w).2.1, (setCells_rest b vs o w).2.2, by rw [setCells_size]; exact Nat.le_refl _, fun k _ h => setCells_heap b vs o w k h⟩
/-- a fresh block is written: what was there before is kept -/
theorem Kept.fresh {b b' : Nat} {w w' w'' : World} (h : Kept b w w') (k : Kept b' w' w'') (hb : w.heap.size ≤ b') : Kept b w w'' :=
  ⟨k.os.trans h.os, k.tape.trans h.tape, k.output.trans h.output, Nat.le_trans h.size k.size, fun i hi hib => (k.block i (Nat.lt_of_lt_of_le hi h.size) (by omega)).trans (h.block i hi hib)⟩
theorem range_same {w w' : World} {b o : Nat} {cs : List Value} (h : w.rangeAt b o cs) (k : w'.heap[b]? = w.heap[b]?) : w'.rangeAt b o cs := fun j v hj => (World.cell?_of_block (a := ⟨b, o + j, none⟩) k).trans (h j v hj)
theorem there_same {w w' : World} {b o n : Nat} (h : w.there b o n) (k : w'.heap[b]? = w.heap[b]?) : w'.there b o n := fun j hj => by
  rw [World.cell?_of_block (a := ⟨b, o + j, none⟩) k, World.frozen?_of_block (a := ⟨b, o + j, none⟩) k]
  exact h j hj
theorem there_of_heap {w : World} {b n : Nat} {cs : Array Value} {t : TypeId} (h : w.heap[b]? = some (.cells cs t (0, 0))) (hn : cs.size = n) : w.there b 0 n := fun j hj => by
  rw [Nat.zero_add]
  refine ⟨?_, free_of_heap h j⟩
  rw [cell_of_heap h, Array.getElem?_eq_getElem (by omega)]
  rfl
theorem there_sub {w : World} {b n : Nat} (h : w.there b 0 n) (o m : Nat) (hm : o + m ≤ n) : w.there b o m := fun j hj => by
  have h1 := h (o + j) (by omega)
  rwa [Nat.zero_add] at h1
/-- a store of many cells, as a step of a region -/
theorem step_store_mid {P : Program} {ops : Array Oper} {o : Oper} {a : Act} {w : World} {K : Act → World → Prop} {Q : Exit → Act → World → Prop} {E : Prop} (hgd : o.guard = none) (ty : TypeId) (x y : Operand) (ho : o.op = .store ty x y)
    (b off : Nat) (cells : Array Value) (hx : a.eval x = .pointer (some ⟨b, off, none⟩)) (hy : a.eval y = .agg cells) (ht : w.there b off cells.size) (hi : (P.info? ty).map (·.size) = some cells.size) (h1 : cells.all (·.oneCell') = true)
    (h : K (a.put o.dst undef) (w.setCells b off cells.toList)) : if Region.wanted o (yielded ops a.tmps) = true then Oper.wp P o a w K Q else E := by
  rw [if_pos (by simp [Region.wanted, hgd])]
  exact wp_store_mid ty x y ho b off cells hx hy ht hi h1 h
/-- a whole array stored, as a step of a region -/
theorem step_store_row {P : Program} {ops : Array Oper} {o : Oper} {a : Act} {w : World} {K : Act → World → Prop} {Q : Exit → Act → World → Prop} {E : Prop} (hgd : o.guard = none) (ty : TypeId) (x y : Operand) (ho : o.op = .store ty x y)
    (b : Nat) (old cells : Array Value) (t : TypeId) (hx : a.eval x = .pointer (some ⟨b, 0, none⟩)) (hy : a.eval y = .agg cells) (hg : w.heap[b]? = some (.cells old t (0, 0)))
    (hi : (P.info? ty).map (·.size) = some cells.size) (hs : old.size = cells.size) (h1 : cells.all (·.oneCell') = true)
    (h : ∀ w', w'.heap[b]? = some (.cells cells t (0, 0)) → Kept b w w' → K (a.put o.dst undef) w') : if Region.wanted o (yielded ops a.tmps) = true then Oper.wp P o a w K Q else E := by
  rw [if_pos (by simp [Region.wanted, hgd])]
  unfold Oper.wp execOp
  simp only [ho, hx, hy, Instr.storeAt, Instr.sureAddr, Sem.run_bind, Sem.run_pure, Result.andThen_ok, run_storeVar_row w b t ty old cells hg hi hs h1]
  exact h _ (setRow_heap w b old cells t (0, 0) hg) ⟨rfl, rfl, rfl, by simp [World.setRow], fun k _ hk => setRow_other w b k cells hk⟩
theorem info52 : (Tryz.prog.info? 23).map (fun i => (i.zero, i.size, i.bytes)) = some (some (.agg (u8s (List.replicate 32 0)).toArray), 32, 32) := by kernel_rfl
/-- a new row of n digests -/
def drow (n : Nat) : Obj := .cells (madeCells (u8s (List.replicate 32 0)).toArray (n * 32)) 23
theorem mk_d (n : Nat) (hn : n ≤ 100000) (w : World) : (Instr.makeSlice 60 (.int .i64 n) (.int .i64 n)).run Tryz.prog w = .ok (.slice (some ⟨w.heap.size, 0, none⟩) n n) (w.alloc (drow n)) := by
  obtain ⟨i0, hi, hz0, hz1, hz2⟩ := info_parts info52
  have h := run_make (P := Tryz.prog) w 60 23 i0 _ Tryz.underlying60 hi hz0 .i64 .i64 n n (by omega) (by omega) (by rw [hz2]; omega) (by omega)
  rw [h, hz1]
  simp only [Int.toNat_natCast, Value.cells]
  rfl
theorem there_drow (w : World) (n : Nat) : (w.alloc (drow n)).there w.heap.size 0 (n * 32) := there_of_heap (heap_new _ _) (size_madeCells _ _)
theorem list32 (l : List Nat) (h : l.length = 32) : ∃ x0 x1 x2 x3 x4 x5 x6 x7 x8 x9 x10 x11 x12 x13 x14 x15 x16 x17 x18 x19 x20 x21 x22 x23 x24 x25 x26 x27 x28 x29 x30 x31, l = [x0, x1, x2, x3, x4, x5, x6, x7, x8, x9, x10, x11, x12, x13, x14, x15, x16, x17, x18, x19, x20, x21, x22, x23, x24, x25, x26, x27, x28, x29, x30, x31] := by
  match l, h with
  | [x0, x1, x2, x3, x4, x5, x6, x7, x8, x9, x10, x11, x12, x13, x14, x15, x16, x17, x18, x19, x20, x21, x22, x23, x24, x25, x26, x27, x28, x29, x30, x31], _ => exact ⟨x0, x1, x2, x3, x4, x5, x6, x7, x8, x9, x10, x11, x12, x13, x14, x15, x16, x17, x18, x19, x20, x21, x22, x23, x24, x25, x26, x27, x28, x29, x30, x31, rfl⟩
/-- the manifest's value, built of its parts -/
theorem built_man (k n t s : Int) (D : List Nat) (hD : D.length = 32) (a : Option Addr) (m c : Nat) : Tryz.prog.built 62 [(0, .int .i64 k), (1, .int .i64 n), (2, .int .i64 t), (3, .int .i64 s), (4, .agg (u8s D).toArray), (5, .slice a m c)] = some (mcells k n t s D (.slice a m c)).toArray := by
  obtain ⟨x0, x1, x2, x3, x4, x5, x6, x7, x8, x9, x10, x11, x12, x13, x14, x15, x16, x17, x18, x19, x20, x21, x22, x23, x24, x25, x26, x27, x28, x29, x30, x31, rfl⟩ := list32 D hD
  kernel_rfl
theorem mcells_one (k n t s : Int) (D : List Nat) (a : Option Addr) (m c : Nat) : (mcells k n t s D (.slice a m c)).toArray.all (·.oneCell') = true := all_oneCell_toArray fun v hv => by
  unfold mcells at hv
  simp only [List.mem_append, List.mem_cons, List.not_mem_nil, or_false] at hv
  rcases hv with ((rfl | rfl | rfl | rfl) | h) | rfl
  · rfl
  · rfl
  · rfl
  · rfl
  · exact u8s_oneH _ v h
  · rfl
theorem put_sz {a : Act} {s : Tmp} {v : Value} : (a.put (some s) v).tmps.size = a.tmps.size := by simp [Act.put]
theorem ev_same {a : Act} {s : Tmp} {v : Value} (h : s < a.tmps.size) : (a.put (some s) v).eval (.tmp s) = v := by
  simp [Act.put, Act.eval, h]
theorem ev_other {a : Act} {s j : Tmp} {v : Value} (h : s ≠ j) : (a.put (some s) v).eval (.tmp j) = a.eval (.tmp j) := by
  simp [Act.put, Act.eval, h]
theorem with_frame {R : Act → World → Prop} {F : Act} {w : World} (h : ∀ a0, a0 = F → R a0 w) : R F w := h F rfl
/-- a step of a region by what the operation gives -/
theorem step_value {P : Program} {ops : Array Oper} {o : Oper} {a : Act} {w : World} {K : Act → World → Prop} {Q : Exit → Act → World → Prop} {E : Prop} (hgd : o.guard = none) {v : Value} {w' : World} (hrun : (execOp a.eval o).run P w = .ok (.value v) w')
    (h : K (a.put o.dst v) w') : if Region.wanted o (yielded ops a.tmps) = true then Oper.wp P o a w K Q else E := by
  rw [if_pos (by simp [Region.wanted, hgd])]
  unfold Oper.wp
  rw [hrun]
  exact h
/-- a call as a step of a region -/
theorem step_call {P : Program} {ops : Array Oper} {o : Oper} {a : Act} {w : World} {K : Act → World → Prop} {Q : Exit → Act → World → Prop} {E : Prop} (hgd : o.guard = none) {f : FuncId} {args : Array Value} (hrun : (execOp a.eval o).run P w = .ok (.enter f args) w) {v : Value} {R : World → Prop}
    (hc : Calls P f args w fun e w' => e = .returned v ∧ R w') (h : ∀ w', R w' → K (a.put o.dst v) w') : if Region.wanted o (yielded ops a.tmps) = true then Oper.wp P o a w K Q else E := by
  rw [if_pos (by simp [Region.wanted, hgd])]
  unfold Oper.wp
  rw [hrun, Oper.upon_enter]
  refine hc.mono ?_
  rintro e w' ⟨rfl, hr⟩
  exact h w' hr
theorem yields_op {P : Program} {ops : Array Oper} {o : Oper} {a : Act} {v : Value} (hgd : o.guard = none) (hrun : ∀ w, (execOp a.eval o).run P w = .ok (.value v) w) : Yields P ops o v a := .inl ⟨by simp [Region.wanted, hgd], hrun⟩
theorem map_one (x : Operand) (f : Operand → Value) : (#[x] : Array Operand).map f = #[f x] := by simp
theorem run_len_op {P : Program} {o : Oper} {a : Act} (x : Operand) (ts : Array TypeId) (ho : o.op = .call { callee := .builtin .len, args := #[x], argTypes := ts }) {s : Option Addr} {m c : Nat} (hx : a.eval x = .slice s m c) (hl : ∀ ty w, (Builtin.len_ ts ty #[.slice s m c]).run P w = .ok (.int .i64 (m : Int)) w) (w : World) : (execOp a.eval o).run P w = .ok (.value (.int .i64 (m : Int))) w := by
  have hv := map_one x a.eval
  rw [hx] at hv
  generalize (#[x] : Array Operand) = args at *
  simp [execOp, ho, resolve, invoke, hv, hl, go_sem]
theorem callFunc_enter {P : Program} {f : FuncId} {fn : Func} {c : Code} (hf : P.funcs[f]? = some fn) (hname : (fn.name == "runtime.NumGoroutine") = false) (hb : fn.body = some c) (args : Array Value) (w : World) : (callFunc f args).run P w = .ok (.enter f args) w := by
  have h1 : fn.name ≠ "runtime.NumGoroutine" := by simpa using hname
  simp [callFunc, hf, h1, hb]
theorem call_sha (args : Array Value) (w : World) : (callFunc 60 args).run Tryz.prog w = .ok (.enter 60 args) w := callFunc_enter Tryz.func60 (by kernel_rfl) (by rfl) args w
theorem call_pd (args : Array Value) (w : World) : (callFunc 86 args).run Tryz.prog w = .ok (.enter 86 args) w := callFunc_enter Tryz.func86 (by kernel_rfl) (by rfl) args w
theorem len_u8 (s : Option Addr) (m c : Nat) (ty : TypeId) (w : World) : (Builtin.len_ #[66] ty #[.slice s m c]).run Tryz.prog w = .ok (.int .i64 (m : Int)) w := by
  have h := Tryz.underlying66
  simp [Builtin.len_, run_underlying h, goInt, go_sem]
theorem run_call_op {P : Program} {o : Oper} {a : Act} (f : FuncId) (x : Operand) (ts : Array TypeId) (ho : o.op = .call { callee := .value (.func f), args := #[x], argTypes := ts }) (hc : ∀ vals w, (callFunc f vals).run P w = .ok (.enter f vals) w) {v : Value} (hx : a.eval x = v) (w : World) : (execOp a.eval o).run P w = .ok (.enter f #[v]) w := by
  have hv := map_one x a.eval
  rw [hx] at hv
  generalize (#[x] : Array Operand) = args at *
  simp [execOp, ho, resolve, invoke, hv, hc, go_sem]
theorem map_six (x0 x1 x2 x3 x4 x5 : Operand) (f : Operand → Value) : ((#[(0, x0), (1, x1), (2, x2), (3, x3), (4, x4), (5, x5)] : Array (Nat × Operand)).map fun (i, x) => (i, f x)).toList = [(0, f x0), (1, f x1), (2, f x2), (3, f x3), (4, f x4), (5, f x5)] := by simp
theorem yields_move {P : Program} {ops : Array Oper} {o : Oper} {a : Act} {v : Value} (x : Operand) (ho : o.op = .move x) (hgd : o.guard = none) (hx : a.eval x = v) : Yields P ops o v a := yields_op hgd fun w => by
  unfold execOp
  simp only [ho, hx]
  rfl
theorem yields_build {P : Program} {ops : Array Oper} {o : Oper} {a : Act} (hgd : o.guard = none) (t : TypeId) (x0 x1 x2 x3 x4 x5 : Operand) (ho : o.op = .build t #[(0, x0), (1, x1), (2, x2), (3, x3), (4, x4), (5, x5)]) {v0 v1 v2 v3 v4 v5 : Value} (h0 : a.eval x0 = v0) (h1 : a.eval x1 = v1) (h2 : a.eval x2 = v2) (h3 : a.eval x3 = v3) (h4 : a.eval x4 = v4) (h5 : a.eval x5 = v5)
    {cells : Array Value} (hp : P.built t [(0, v0), (1, v1), (2, v2), (3, v3), (4, v4), (5, v5)] = some cells) : Yields P ops o (.agg cells) a :=
  .inl ⟨by simp [Region.wanted, hgd], fun w => by
    have hv := map_six x0 x1 x2 x3 x4 x5 a.eval
    rw [h0, h1, h2, h3, h4, h5] at hv
    rw [← hv] at hp
    unfold execOp
    simp only [ho]
    have h := run_build (P := P) w t _ cells hp
    simp only [Sem.run_bind, h, Result.andThen_ok, Sem.run_pure]⟩
/-- the making of a row of digests, as a step of a region -/
theorem step_mkd {ops : Array Oper} {o : Oper} {a : Act} {w : World} {K : Act → World → Prop} {Q : Exit → Act → World → Prop} {E : Prop} (hgd : o.guard = none) (x : Operand) (ho : o.op = .makeSlice 60 x x) (n : Nat) (hn : n ≤ 100000) (hx : a.eval x = .int .i64 (n : Int))
    (h : ∀ gd w', gd = w.heap.size → w'.there gd 0 (n * 32) → Below w.heap.size w w' → gd < w'.heap.size → K (a.put o.dst (.slice (some ⟨gd, 0, none⟩) n n)) w') : if Region.wanted o (yielded ops a.tmps) = true then Oper.wp Tryz.prog o a w K Q else E := by
  have h1 := mk_d n hn w
  refine step_value (P := Tryz.prog) hgd (v := .slice (some ⟨w.heap.size, 0, none⟩) n n) (w' := w.alloc (drow n)) ?_ (h w.heap.size _ rfl (there_drow w n) ((Below.refl _ _).alloc (Nat.le_refl _) _) (by simp))
  unfold execOp
  simp only [ho, hx]
  simp [h1]
def mz : Array Value := (mcells 0 0 0 0 (List.replicate 32 0) (.slice none 0 0)).toArray
theorem alloc_man (w : World) : (Instr.alloc 62 true (.tuple #[])).run Tryz.prog w = .ok (.pointer (some ⟨w.heap.size, 0, none⟩)) (w.alloc (.cells mz 62)) := by kernel_rfl
theorem step_mkm {ops : Array Oper} {o : Oper} {a : Act} {w : World} {K : Act → World → Prop} {Q : Exit → Act → World → Prop} {E : Prop} (hgd : o.guard = none) (ho : o.op = .alloc 62)
    (h : ∀ mb w', mb = w.heap.size → w'.heap[mb]? = some (.cells mz 62 (0, 0)) → Below w.heap.size w w' → mb < w'.heap.size → K (a.put o.dst (.pointer (some ⟨mb, 0, none⟩))) w') : if Region.wanted o (yielded ops a.tmps) = true then Oper.wp Tryz.prog o a w K Q else E := by
  have h1 := alloc_man w
  refine step_value (P := Tryz.prog) hgd (v := .pointer (some ⟨w.heap.size, 0, none⟩)) (w' := w.alloc (.cells mz 62)) ?_ (h w.heap.size _ rfl (heap_new _ _) ((Below.refl _ _).alloc (Nat.le_refl _) _) (by simp))
  unfold execOp
  simp only [ho]
  simp [h1]
end Go.Proofs.YtjgiiciniplbnaaGreatDoor

namespace Go.Proofs.YtjgiiciniplbnaaGreatDoor
open Go Go.RowKit Go.Lib Go.Sort
set_option linter.unusedVariables false

/-- wx is W with more draws and more blocks -/
def Grw (W wx : World) : Prop := ∃ q os, wx = grow (W.drewN q) os
theorem Grw.refl (W : World) : Grw W W := ⟨0, #[], by rw [grow_empty]; rfl⟩
theorem Grw.trans {a b c : World} (h : Grw a b) (k : Grw b c) : Grw a c := by
  obtain ⟨q, os, rfl⟩ := h
  obtain ⟨q', os', rfl⟩ := k
  refine ⟨q + q', os ++ os', ?_⟩
  show grow (grow ((a.drewN q).drewN q') os) os' = _
  rw [grow_grow, World.drewN_drewN]
theorem Grw.alloc {a b : World} (h : Grw a b) (o : Obj) : Grw a (b.alloc o) := h.trans ⟨0, #[o], alloc_eq_grow b o⟩
theorem Grw.drewN {a b : World} (h : Grw a b) (n : Nat) : Grw a (b.drewN n) := h.trans ⟨n, #[], by rw [grow_empty]⟩
theorem Grw.cell {a b : World} (h : Grw a b) {p : Addr} {v : Value} (hp : a.cell? p = some v) : b.cell? p = some v := by
  obtain ⟨q, os, rfl⟩ := h
  exact (cell?_grow (a.drewN q) os p (World.block_lt_of_cell? _ _ hp)).trans hp
theorem Grw.below {a b : World} (h : Grw a b) : Below a.heap.size a b := by
  obtain ⟨q, os, rfl⟩ := h
  refine ⟨rfl, rfl, rfl, ?_, fun k hk => ?_⟩
  · show a.heap.size ≤ (a.heap ++ os).size
    simp
  · show (a.heap ++ os)[k]? = a.heap[k]?
    rw [Array.getElem?_append_left hk]
/-- what the model's entry reads of a slice of bytes -/
theorem bytesOf_slice {P : Program} (w : World) (b o n c : Nat) (l : List Nat) (hl : l.length = n) (hc : ∀ i, i < n → w.cell? ⟨b, o + i, none⟩ = some (.int .u8 (l.getD i 0))) :
    (Extern.Bytes.bytesOf (.slice (some ⟨b, o, none⟩) n c)).run P w = .ok ⟨(bl l).toArray⟩ w := by
  have h := run_loadBytesX (P := P) w (l.map Int.ofNat) ⟨b, o, none⟩ .empty (fun j x hj => by
    have hjl : j < l.length := by have := (List.getElem?_eq_some_iff.1 hj).1; simpa using this
    have e : (⟨b, o, none⟩ : Addr).add j = ⟨b, o + j, none⟩ := by unfold Addr.add; split <;> simp_all
    rw [e, hc j (by omega), List.getD_eq_getElem?_getD]
    rw [List.getElem?_map] at hj
    cases hq : l[j]? with
    | none => rw [hq] at hj; cases hj
    | some y => rw [hq] at hj; simp at hj; rw [← hj]; rfl)
  rw [List.length_map, hl, bl_ints] at h
  have he : (⟨ByteArray.empty.data ++ (bl l).toArray⟩ : ByteArray) = ⟨(bl l).toArray⟩ := by
    apply ByteArray.ext
    show (#[] : Array UInt8) ++ (bl l).toArray = (bl l).toArray
    simp
  rw [he] at h
  exact h
theorem run_compareSlices {P : Program} (w : World) (b o n c b' o' n' c' : Nat) (l l' : List Nat) (hl : l.length = n) (hc : ∀ i, i < n → w.cell? ⟨b, o + i, none⟩ = some (.int .u8 (l.getD i 0))) (hl' : l'.length = n') (hc' : ∀ i, i < n' → w.cell? ⟨b', o' + i, none⟩ = some (.int .u8 (l'.getD i 0))) :
    (Extern.BytealgCompare.compare #[.slice (some ⟨b, o, none⟩) n c, .slice (some ⟨b', o', none⟩) n' c']).run P w = .ok (.int .i64 (compareBytes (bl l) (bl l'))) w := by
  change Sem.run P (do pure (goInt (Extern.BytealgCompare.cmp (← Extern.Bytes.bytesOf (.slice (some ⟨b, o, none⟩) n c)) (← Extern.Bytes.bytesOf (.slice (some ⟨b', o', none⟩) n' c'))))) w = _
  simp only [Sem.run_bind, Sem.run_pure, bytesOf_slice w b o n c l hl hc, bytesOf_slice w b' o' n' c' l' hl' hc', Result.andThen]
  rw [cmp_eq]
  rfl
set_option maxRecDepth 100000 in
/-- bytes.Compare of two slices -/
theorem bcmp_any (w : World) (b o n c b' o' n' c' : Nat) (l l' : List Nat) (hl : l.length = n) (hc : ∀ i, i < n → w.cell? ⟨b, o + i, none⟩ = some (.int .u8 (l.getD i 0))) (hl' : l'.length = n') (hc' : ∀ i, i < n' → w.cell? ⟨b', o' + i, none⟩ = some (.int .u8 (l'.getD i 0))) :
    Calls Tryz.prog 95 #[.slice (some ⟨b, o, none⟩) n c, .slice (some ⟨b', o', none⟩) n' c'] w fun e w' => e = .returned (.int .i64 (compareBytes (bl l) (bl l'))) ∧ w = w' := by
  have H := hid (run_compareSlices (P := Tryz.prog) w b o n c b' o' n' c' l l' hl hc hl' hc')
  clear hc hc' hl hl'
  go_enter Tryz.func95, Tryz.ntmps95
  go_wp2
  rw [run_callFunc_extern Tryz.func128 (by kernel_rfl) (by kernel_rfl) (by kernel_rfl) (e := Extern.BytealgCompare.compare) (by kernel_rfl), H.out]
  simp only [Result.andThen]
  rw [Oper.upon_value]
  go_wp2
  go_ret
  exact ⟨rfl, rfl⟩
theorem isNaN_any (x : Int) (w : World) : Calls Tryz.prog 129 #[.int .i64 x] w fun e w' => e = .returned (.bool false) ∧ w = w' := by
  go_enter Tryz.func129, Tryz.ntmps129
  have h : (x != x) = false := by simp
  go_wp2
  go_ret
  exact ⟨rfl, rfl⟩
set_option maxRecDepth 100000 in
/-- cmp.Compare of two numbers -/
theorem ccmp_any (x y : Int) (w : World) : Calls Tryz.prog 96 #[.int .i64 x, .int .i64 y] w fun e w' => e = .returned (.int .i64 (compareInt x y)) ∧ w = w' := by
  have H := hid (show compareInt x y = if x < y then -1 else if x > y then 1 else 0 from rfl)
  obtain ⟨r, hr⟩ : ∃ r, r = compareInt x y := ⟨_, rfl⟩
  rw [← hr] at H ⊢
  clear hr
  go_enter Tryz.func96, Tryz.ntmps96
  go_wp2_with fail
  refine (isNaN_any x w).mono ?_
  rintro e w1 ⟨rfl, rfl⟩
  go_wp2_with fail
  refine (isNaN_any y w).mono ?_
  rintro e w1 ⟨rfl, rfl⟩
  by_cases h1 : x < y
  · have e1 : r = -1 := by rw [H.out, if_pos h1]
    subst e1
    go_wp2
    go_ret
    exact ⟨rfl, rfl⟩
  · by_cases h2 : y < x
    · have h2' : x > y := h2
      have e1 : r = 1 := by rw [H.out, if_neg h1, if_pos h2']
      subst e1
      go_wp2
      go_ret
      exact ⟨rfl, rfl⟩
    · have h2' : ¬ x > y := h2
      have e1 : r = 0 := by rw [H.out, if_neg h1, if_neg h2']
      subst e1
      go_wp2
      go_ret
      exact ⟨rfl, rfl⟩
set_option maxRecDepth 100000 in
/-- cmp.Or of two numbers -/
theorem cor_any (b : Nat) (x y : Int) (w : World) (hx : w.cell? ⟨b, 0, none⟩ = some (.int .i64 x)) (hy : w.cell? ⟨b, 1, none⟩ = some (.int .i64 y)) :
    Calls Tryz.prog 94 #[.slice (some ⟨b, 0, none⟩) 2 2] w fun e w' => e = .returned (.int .i64 (if x = 0 then y else x)) ∧ w = w' := by
  have HX := hid hx
  have HY := hid hy
  obtain ⟨r, hr⟩ : ∃ r, r = (if x = 0 then y else x) := ⟨_, rfl⟩
  rw [← hr]
  have HR := hid hr
  clear hx hy hr
  go_enter Tryz.func94, Tryz.ntmps94
  go_wp2
  go_loopw [5, 8] (fun _ iv wr => ∃ k : Nat, k ≤ 2 ∧ iv = .int .i64 k ∧ Hid (wr = w ∧ (0 < k → x = 0) ∧ (1 < k → y = 0))) (fun _ iv _ => 2 - (intOf iv).toNat)
  case atStart => exact ⟨0, by omega, rfl, hid ⟨rfl, fun h => by omega, fun h => by omega⟩⟩
  case round =>
    obtain ⟨k, hk, rfl, HW⟩ := hrel
    have hw := HW.out.1
    have HZ := hid HW.out.2
    clear HW
    subst hw
    by_cases h2 : k < 2
    · have h2' : (k : Int) < 2 := by omega
      rcases (show k = 0 ∨ k = 1 from by omega) with rfl | rfl
      · have c0 := HX.out
        by_cases e : x = 0
        · have e' : (x != 0) = false := by simp [e]
          have E := hid e
          clear e
          go_wp2
          exact ⟨⟨1, by omega, by go_num, hid ⟨by trivial, fun _ => E.out, fun h => by omega⟩⟩, by simp [intOf]⟩
        · have e' : (x != 0) = true := by simp [e]
          have E := hid (show x = r from by rw [HR.out, if_neg e])
          clear e
          go_wp2
          go_ret
          exact ⟨by rw [← E.out]; rfl, rfl⟩
      · have c0 := HY.out
        have E0 := hid (HZ.out.1 (by omega))
        by_cases e2 : y = 0
        · have e' : (y != 0) = false := by simp [e2]
          have E := hid e2
          clear e2
          go_wp2
          exact ⟨⟨2, by omega, by go_num, hid ⟨by trivial, fun _ => E0.out, fun _ => E.out⟩⟩, by simp [intOf]⟩
        · have e' : (y != 0) = true := by simp [e2]
          have E := hid (show y = r from by rw [HR.out, if_pos E0.out])
          clear e2
          go_wp2
          go_ret
          exact ⟨by rw [← E.out]; rfl, rfl⟩
    · obtain rfl : k = 2 := by omega
      have E := hid (show r = 0 from by rw [HR.out, if_pos (HZ.out.1 (by omega)), HZ.out.2 (by omega)])
      go_wp2
      go_ret
      exact ⟨by rw [E.out]; rfl, rfl⟩

/-- the cells of a rank -/
def rk (s : List Nat) (a : Int) : List Value := u8s s ++ [.int .i64 a]
theorem rk_length (s : List Nat) (a : Int) (h : s.length = 32) : (rk s a).length = 33 := by simp [rk, u8s, h]
theorem rk_get (s : List Nat) (a : Int) (h : s.length = 32) (i : Nat) (hi : i < 32) : (rk s a)[i]? = some (.int .u8 (s.getD i 0)) := by
  unfold rk u8s
  rw [List.getElem?_append_left (by simp; omega), List.getElem?_map, List.getElem?_eq_getElem (by omega)]
  simp [List.getD_eq_getElem?_getD, List.getElem?_eq_getElem (show i < s.length by omega)]
theorem rk_last (s : List Nat) (a : Int) (h : s.length = 32) : (rk s a)[32]? = some (.int .i64 a) := by
  unfold rk
  rw [List.getElem?_append_right (by simp [u8s, h])]
  simp [u8s, h]
theorem run_build2I (x y : Int) (w : World) : (Instr.buildSlice 27 2 #[(0, .int .i64 x), (1, .int .i64 y)]).run Tryz.prog w = .ok (.slice (some ⟨w.heap.size, 0, none⟩) 2 2) (w.alloc (.cells #[.int .i64 x, .int .i64 y] 3)) := by kernel_rfl
theorem step_build2I {ops : Array Oper} {o : Oper} {a : Act} {w : World} {K : Act → World → Prop} {Q : Exit → Act → World → Prop} {E : Prop} (p q : Operand) (hgd : o.guard = none) (ho : o.op = .buildSlice 27 2 #[(0, p), (1, q)]) (x y : Int) (hp : a.eval p = .int .i64 x) (hq : a.eval q = .int .i64 y)
    (h : ∀ g w', g = w.heap.size → w' = w.alloc (.cells #[.int .i64 x, .int .i64 y] 3) → w'.cell? ⟨g, 0, none⟩ = some (.int .i64 x) → w'.cell? ⟨g, 1, none⟩ = some (.int .i64 y) → K (a.put o.dst (.slice (some ⟨g, 0, none⟩) 2 2)) w') : if Region.wanted o (yielded ops a.tmps) = true then Oper.wp Tryz.prog o a w K Q else E := by
  refine step_value (P := Tryz.prog) hgd (v := .slice (some ⟨w.heap.size, 0, none⟩) 2 2) (w' := w.alloc (.cells #[.int .i64 x, .int .i64 y] 3)) ?_ (h w.heap.size _ rfl rfl (by rw [cell_of_heap (heap_new _ _)]; rfl) (by rw [cell_of_heap (heap_new _ _)]; rfl))
  have h1 := run_build2I x y w
  unfold execOp
  simp only [ho]
  simp [hp, hq, h1]
theorem or_cmp (s t : List Nat) (a b : Int) : (if compareBytes (bl s) (bl t) = 0 then compareInt a b else compareBytes (bl s) (bl t)) = cmpRk s t a b := rfl

end Go.Proofs.YtjgiiciniplbnaaGreatDoor

namespace Go.Proofs.YtjgiiciniplbnaaGreatDoor
open Go Go.RowKit Go.Lib Go.Sort
set_option linter.unusedVariables false

set_option maxRecDepth 100000 in
set_option maxHeartbeats 4000000 in
/-- compareRanks of any two ranks -/
theorem cranks_any (s t : List Nat) (a b : Int) (hs : s.length = 32) (ht : t.length = 32) (W : World) :
    Calls Tryz.prog 63 #[.agg (rk s a).toArray, .agg (rk t b).toArray] W fun e w' => e = .returned (.int .i64 (cmpRk s t a b)) ∧ Grw W w' := by
  obtain ⟨W1, hW1⟩ : ∃ y, y = (W.alloc (.cells (rk s a).toArray 123)).alloc (.cells (rk t b).toArray 123) := ⟨_, rfl⟩
  have hg1 : Grw W W1 := by rw [hW1]; exact ((Grw.refl W).alloc _).alloc _
  obtain ⟨b1, hb1⟩ : ∃ y, y = W.heap.size := ⟨_, rfl⟩
  have h1 : W1.heap[b1]? = some (.cells (rk s a).toArray 123 (0, 0)) := by rw [hW1, hb1]; exact heap_alloc (heap_new _ _) _
  have h2 : W1.heap[b1 + 1]? = some (.cells (rk t b).toArray 123 (0, 0)) := by
    have h := heap_new (W.alloc (.cells (rk s a).toArray 123)) (.cells (rk t b).toArray 123)
    rw [hW1, hb1]
    simpa using h
  have q1 : ∀ i, i < 32 → W1.cell? ⟨b1, 0 + i, none⟩ = some (.int .u8 (s.getD i 0)) := fun i hi => by rw [Nat.zero_add, cell_of_heap h1, List.getElem?_toArray]; exact rk_get s a hs i hi
  have q2 : ∀ i, i < 32 → W1.cell? ⟨b1 + 1, 0 + i, none⟩ = some (.int .u8 (t.getD i 0)) := fun i hi => by rw [Nat.zero_add, cell_of_heap h2, List.getElem?_toArray]; exact rk_get t b ht i hi
  have q3 : W1.cell? ⟨b1, 32, none⟩ = some (.int .i64 a) := by rw [cell_of_heap h1, List.getElem?_toArray]; exact rk_last s a hs
  have q4 : W1.cell? ⟨b1 + 1, 32, none⟩ = some (.int .i64 b) := by rw [cell_of_heap h2, List.getElem?_toArray]; exact rk_last t b ht
  have HKP := hid (show ∀ wx, Grw W1 wx → Grw W1 wx ∧ wx.cell? ⟨b1, 32, none⟩ = some (.int .i64 a) ∧ wx.cell? ⟨b1 + 1, 32, none⟩ = some (.int .i64 b) from fun wx h => ⟨h, h.cell q3, h.cell q4⟩)
  have HBC := hid (fun (wx : World) (h : Grw W1 wx) => bcmp_any wx b1 0 32 32 (b1 + 1) 0 32 32 s t hs (fun i hi => h.cell (q1 i hi)) ht (fun i hi => h.cell (q2 i hi)))
  have HG1 := hid hg1
  have HCA := hid (or_cmp s t a b)
  generalize cmpRk s t a b = CR at *
  generalize compareBytes (bl s) (bl t) = CB at *
  have HCC := hid (fun wx => ccmp_any a b wx)
  generalize compareInt a b = CI at *
  have LS := hid (rk_length s a hs)
  have LT := hid (rk_length t b ht)
  have HW1 := hid hW1
  obtain ⟨RA, hRA⟩ : ∃ y, y = rk s a := ⟨_, rfl⟩
  rw [← hRA] at HW1 LS ⊢
  obtain ⟨RB, hRB⟩ : ∃ y, y = rk t b := ⟨_, rfl⟩
  rw [← hRB] at HW1 LT ⊢
  clear hRA hRB
  have HB1 := hid hb1
  clear hg1 h1 h2 q1 q2 q3 q4 hW1 hs ht hb1
  go_enter Tryz.func63, Tryz.ntmps63
  go_upto_region 1 with fail
  rw [← HW1.out, ← HB1.out]
  have hsz : (W.alloc (.cells RA.toArray 123)).heap.size = b1 + 1 := by rw [HB1.out]; simp
  refine wp_region_held_drew (S := (fun wx => Grw W1 wx ∧ wx.cell? ⟨b1, 32, none⟩ = some (.int .i64 a) ∧ wx.cell? ⟨b1 + 1, 32, none⟩ = some (.int .i64 b))) (by kernel_rfl) (HKP.out _ ((Grw.refl W1).drewN 1)) (fun hHeld => ?_)
  refine wpAnyH_take (i := 0) (oi := { dst := some 5, op := Op.fieldAddr 123 (Operand.tmp 2) 0, type := 0, pos := "place.go:31", after := #[], guard := none }) (v := ?_) rfl (by kernel_rfl) (by kernel_rfl) (by kernel_rfl) (fun _ _ _ h => h) (Or.inl ⟨by rfl, ?hy⟩) hHeld ?_
  case hy => (intro w hSw; (try dsimp only at hSw); obtain ⟨_, _, _⟩ := hSw; go_simp; all_goals (with_reducible rfl))
  try simp only [Act.put, List.setIfInBounds_toArray, List.set_cons_zero, List.set_cons_succ]
  refine wpAnyH_take (i := 1) (oi := { dst := some 6, op := Op.slice 23 (Operand.tmp 5) none none none, type := 66, pos := "place.go:31", after := #[{ on := 0, ground := Ground.data }], guard := none }) (v := ?_) rfl (by kernel_rfl) (by kernel_rfl) (by kernel_rfl) (fun _ _ _ h => h) (Or.inl ⟨by rfl, ?hy⟩) hHeld ?_
  case hy => (intro w hSw; (try dsimp only at hSw); obtain ⟨_, _, _⟩ := hSw; go_simp; all_goals (with_reducible rfl))
  try simp only [Act.put, List.setIfInBounds_toArray, List.set_cons_zero, List.set_cons_succ]
  refine wpAnyH_take (i := 2) (oi := { dst := some 7, op := Op.fieldAddr 123 (Operand.tmp 3) 0, type := 0, pos := "place.go:31", after := #[], guard := none }) (v := ?_) rfl (by kernel_rfl) (by kernel_rfl) (by kernel_rfl) (fun _ _ _ h => h) (Or.inl ⟨by rfl, ?hy⟩) hHeld ?_
  case hy => (intro w hSw; (try dsimp only at hSw); obtain ⟨_, _, _⟩ := hSw; go_simp; all_goals (with_reducible rfl))
  try simp only [Act.put, List.setIfInBounds_toArray, List.set_cons_zero, List.set_cons_succ]
  refine wpAnyH_take (i := 3) (oi := { dst := some 8, op := Op.slice 23 (Operand.tmp 7) none none none, type := 66, pos := "place.go:31", after := #[{ on := 2, ground := Ground.data }], guard := none }) (v := ?_) rfl (by kernel_rfl) (by kernel_rfl) (by kernel_rfl) (fun _ _ _ h => h) (Or.inl ⟨by rfl, ?hy⟩) hHeld ?_
  case hy => (intro w hSw; (try dsimp only at hSw); obtain ⟨_, _, _⟩ := hSw; go_simp; all_goals (with_reducible rfl))
  try simp only [Act.put, List.setIfInBounds_toArray, List.set_cons_zero, List.set_cons_succ]
  refine wpAnyH_take (i := 5) (oi := { dst := some 10, op := Op.fieldAddr 123 (Operand.tmp 2) 1, type := 0, pos := "place.go:31", after := #[], guard := none }) (v := ?_) rfl (by kernel_rfl) (by kernel_rfl) (by kernel_rfl) (fun _ _ _ h => h) (Or.inl ⟨by rfl, ?hy⟩) hHeld ?_
  case hy => (intro w hSw; (try dsimp only at hSw); obtain ⟨_, _, _⟩ := hSw; go_simp; all_goals (with_reducible rfl))
  try simp only [Act.put, List.setIfInBounds_toArray, List.set_cons_zero, List.set_cons_succ]
  refine wpAnyH_take (i := 6) (oi := { dst := some 11, op := Op.load 3 (Operand.tmp 10), type := 3, pos := "place.go:31", after := #[{ on := 5, ground := Ground.data }], guard := none }) (v := ?_) rfl (by kernel_rfl) (by kernel_rfl) (by kernel_rfl) (fun _ _ _ h => h) (Or.inl ⟨by rfl, ?hy⟩) hHeld ?_
  case hy => (intro w hSw; (try dsimp only at hSw); obtain ⟨_, _, _⟩ := hSw; go_simp; all_goals (with_reducible rfl))
  try simp only [Act.put, List.setIfInBounds_toArray, List.set_cons_zero, List.set_cons_succ]
  refine wpAnyH_take (i := 7) (oi := { dst := some 12, op := Op.fieldAddr 123 (Operand.tmp 3) 1, type := 0, pos := "place.go:31", after := #[], guard := none }) (v := ?_) rfl (by kernel_rfl) (by kernel_rfl) (by kernel_rfl) (fun _ _ _ h => h) (Or.inl ⟨by rfl, ?hy⟩) hHeld ?_
  case hy => (intro w hSw; (try dsimp only at hSw); obtain ⟨_, _, _⟩ := hSw; go_simp; all_goals (with_reducible rfl))
  try simp only [Act.put, List.setIfInBounds_toArray, List.set_cons_zero, List.set_cons_succ]
  refine wpAnyH_take (i := 8) (oi := { dst := some 13, op := Op.load 3 (Operand.tmp 12), type := 3, pos := "place.go:31", after := #[{ on := 7, ground := Ground.data }], guard := none }) (v := ?_) rfl (by kernel_rfl) (by kernel_rfl) (by kernel_rfl) (fun _ _ _ h => h) (Or.inl ⟨by rfl, ?hy⟩) hHeld ?_
  case hy => (intro w hSw; (try dsimp only at hSw); obtain ⟨_, _, _⟩ := hSw; go_simp; all_goals (with_reducible rfl))
  try simp only [Act.put, List.setIfInBounds_toArray, List.set_cons_zero, List.set_cons_succ]
  refine wpAnyH_ready (rs := [4]) (by kernel_rfl) (by simp) ?_
  refine AllReadyH.cons (o := { dst := some 9, op := Op.call { callee := Callee.value (Operand.func 95), args := #[Operand.tmp 6, Operand.tmp 8], argTypes := #[66, 66] }, type := 3, pos := "place.go:31", after := #[{ on := 1, ground := Ground.data }, { on := 3, ground := Ground.data }], guard := none }) rfl (fun K hK => ?_) AllReadyH.nil
  go_simp
  refine (HBC.out _ hHeld.1).mono ?_
  rintro e wa ⟨rfl, rfl⟩
  have G4 := hHeld.1
  clear hHeld
  go_wp2_with fail
  refine hK.out _ _ (HKP.out _ G4) (fun hHeld => ?_)
  clear hK K
  try simp only [Act.put, List.setIfInBounds_toArray, List.set_cons_zero, List.set_cons_succ]
  refine wpAnyH_ready (rs := [9]) (by kernel_rfl) (by simp) ?_
  refine AllReadyH.cons (o := { dst := some 14, op := Op.call { callee := Callee.value (Operand.func 96), args := #[Operand.tmp 11, Operand.tmp 13], argTypes := #[3, 3] }, type := 3, pos := "place.go:31", after := #[{ on := 6, ground := Ground.data }, { on := 8, ground := Ground.data }, { on := 4, ground := Ground.chain }], guard := none }) rfl (fun K hK => ?_) AllReadyH.nil
  go_simp
  refine (HCC.out _).mono ?_
  rintro e wa ⟨rfl, rfl⟩
  clear hHeld
  go_wp2_with fail
  refine hK.out _ _ (HKP.out _ G4) (fun hHeld => ?_)
  clear hK K
  try simp only [Act.put, List.setIfInBounds_toArray, List.set_cons_zero, List.set_cons_succ]
  refine wpAnyH_ready (rs := [10]) (by kernel_rfl) (by simp) ?_
  refine AllReadyH.cons (o := { dst := some 15, op := Op.buildSlice 27 2 #[(0, Operand.tmp 9), (1, Operand.tmp 14)], type := 27, pos := "place.go:31", after := #[{ on := 4, ground := Ground.data }, { on := 9, ground := Ground.data }], guard := none }) rfl (fun K hK => ?_) AllReadyH.nil
  refine step_build2I (.tmp 9) (.tmp 14) rfl rfl CB CI rfl rfl ?_
  intro g wg hg hwg d0 d1
  have G5 : Grw W1 wg := by rw [hwg]; exact G4.alloc _
  clear hg hwg
  refine hK.out _ _ (HKP.out _ G5) (fun hHeld => ?_)
  clear hK K
  try simp only [Act.put, List.setIfInBounds_toArray, List.set_cons_zero, List.set_cons_succ]
  refine wpAnyH_ready (rs := [11]) (by kernel_rfl) (by simp) ?_
  refine AllReadyH.cons (o := { dst := some 16, op := Op.call { callee := Callee.value (Operand.func 94), args := #[Operand.tmp 15], argTypes := #[27] }, type := 3, pos := "place.go:31", after := #[{ on := 10, ground := Ground.data }, { on := 9, ground := Ground.chain }], guard := none }) rfl (fun K hK => ?_) AllReadyH.nil
  go_simp
  have hc := cor_any g CB CI wg d0 d1
  rw [HCA.out] at hc
  refine hc.mono ?_
  clear hc
  rintro e wa ⟨rfl, rfl⟩
  clear hHeld
  go_wp2_with fail
  refine hK.out _ _ (HKP.out _ G5) (fun hHeld => ?_)
  clear hK K
  try simp only [Act.put, List.setIfInBounds_toArray, List.set_cons_zero, List.set_cons_succ]
  refine wpAnyH_take (i := 12) (oi := { dst := some 4, op := Op.assign (Operand.tmp 16), type := 3, pos := "place.go:31", after := #[{ on := 11, ground := Ground.data }, { on := 11, ground := Ground.chain }, { on := 0, ground := Ground.phase }, { on := 1, ground := Ground.phase }, { on := 2, ground := Ground.phase }, { on := 3, ground := Ground.phase }, { on := 4, ground := Ground.phase }, { on := 5, ground := Ground.phase }, { on := 6, ground := Ground.phase }, { on := 7, ground := Ground.phase }, { on := 8, ground := Ground.phase }, { on := 9, ground := Ground.phase }, { on := 10, ground := Ground.phase }, { on := 11, ground := Ground.phase }], guard := none }) (v := ?_) rfl (by kernel_rfl) (by kernel_rfl) (by kernel_rfl) (fun _ _ _ h => h) (Or.inl ⟨by rfl, ?hy⟩) hHeld ?_
  case hy => (intro w hSw; (try dsimp only at hSw); obtain ⟨_, _, _⟩ := hSw; go_simp; all_goals (with_reducible rfl))
  try simp only [Act.put, List.setIfInBounds_toArray, List.set_cons_zero, List.set_cons_succ]
  refine wpAnyH_done (by kernel_rfl) ?_ _
  go_wp2_with fail
  go_ret
  exact ⟨rfl, HG1.out.trans G5⟩
end Go.Proofs.YtjgiiciniplbnaaGreatDoor

namespace Go.Proofs.YtjgiiciniplbnaaGreatDoor
open Go.RowKit

def bstr (l : List Nat) : ByteArray := ⟨(l.map UInt8.ofNat).toArray⟩
theorem conv_bs {w : World} {a : Option Addr} {n c : Nat} {l : List Nat} (h : Bs w (.slice a n c) l) : (convert 66 9 (.slice a n c)).run Tryz.prog w = .ok (.string (bstr l)) w := by
  have hn := h.len
  rcases h.addr with ⟨h0, a', c', hv⟩ | ⟨h0, b, o, c', hv⟩
  · simp only [Value.slice.injEq] at hv
    obtain ⟨rfl, rfl, rfl⟩ := hv
    subst h0
    cases a with
    | none => exact run_convert_bytes_nil w _ _ Tryz.underlying66 Tryz.underlying5 _ _ _ Tryz.underlying9
    | some x =>
      have h2 := run_bytesToString (P := Tryz.prog) w x 0 c [] (by simpa using run_loadCells_list (P := Tryz.prog) w x [] (by simp))
      rw [run_convert_bytes_string w _ _ _ _ 0 c Tryz.underlying66 Tryz.underlying5 Tryz.underlying9, h2]
      rfl
  · simp only [Value.slice.injEq] at hv
    obtain ⟨rfl, rfl, rfl⟩ := hv
    have h2 := run_convert_bytes_arg (P := Tryz.prog) w 66 5 Tryz.underlying66 Tryz.underlying5 b o l.length c (l.map fun (x : Nat) => (x : Int)) (by simp) (fun i hi => by
      rw [h.cell i hi]
      simp [List.getElem?_eq_getElem hi]) 9 Tryz.underlying9
    rw [h2]
    simp [strOfNums, bstr, Function.comp_def]
theorem bstr_inj {a b : List Nat} (ha : ∀ n ∈ a, n < 256) (hb : ∀ n ∈ b, n < 256) (h : bstr a = bstr b) : a = b := by
  have h1 : a.map UInt8.ofNat = b.map UInt8.ofNat := by
    have := congrArg (fun x : ByteArray => x.data.toList) h
    simpa [bstr] using this
  have e : ∀ l : List Nat, (∀ n ∈ l, n < 256) → (l.map UInt8.ofNat).map UInt8.toNat = l := by
    intro l hl
    rw [List.map_map]
    conv => rhs; rw [← List.map_id l]
    apply List.map_congr_left
    intro x hx
    have := hl x hx
    show (UInt8.ofNat x).toNat = x
    rw [UInt8.toNat_ofNat']
    omega
  rw [← e a ha, ← e b hb, h1]
end Go.Proofs.YtjgiiciniplbnaaGreatDoor

namespace Go.Proofs.YtjgiiciniplbnaaGreatDoor
open Go Go.RowKit
set_option linter.unusedVariables false

def mo0 : Oper := { dst := some 39, op := Op.move (Operand.tmp 1), type := 3, pos := "pieces.go:20", after := #[], guard := none }
def mo1 : Oper := { dst := some 40, op := Op.move (Operand.tmp 2), type := 3, pos := "pieces.go:20", after := #[], guard := none }
def mo2 : Oper := { dst := some 41, op := Op.move (Operand.tmp 3), type := 3, pos := "pieces.go:20", after := #[], guard := none }
def mo3 : Oper := { dst := some 42, op := Op.move (Operand.tmp 4), type := 66, pos := "pieces.go:20", after := #[], guard := none }
def mo4 : Oper := { dst := some 43, op := Op.call { callee := Callee.builtin Builtin.len, args := #[Operand.tmp 42], argTypes := #[66] }, type := 3, pos := "pieces.go:20", after := #[{ on := 3, ground := Ground.data }], guard := none }
def mo5 : Oper := { dst := some 44, op := Op.move (Operand.tmp 4), type := 66, pos := "pieces.go:20", after := #[], guard := none }
def mo6 : Oper := { dst := some 45, op := Op.call { callee := Callee.value (Operand.func 60), args := #[Operand.tmp 44], argTypes := #[66] }, type := 23, pos := "pieces.go:20", after := #[{ on := 5, ground := Ground.data }], guard := none }
def mo7 : Oper := { dst := some 46, op := Op.move (Operand.tmp 3), type := 3, pos := "pieces.go:20", after := #[], guard := none }
def mo8 : Oper := { dst := some 47, op := Op.makeSlice 60 (Operand.tmp 46) (Operand.tmp 46), type := 60, pos := "pieces.go:20", after := #[{ on := 7, ground := Ground.data }, { on := 7, ground := Ground.data }], guard := none }
def mo9 : Oper := { dst := some 48, op := Op.build 62 #[(0, Operand.tmp 39), (1, Operand.tmp 40), (2, Operand.tmp 41), (3, Operand.tmp 43), (4, Operand.tmp 45), (5, Operand.tmp 47)], type := 62, pos := "pieces.go:20", after := #[{ on := 0, ground := Ground.data }, { on := 1, ground := Ground.data }, { on := 2, ground := Ground.data }, { on := 4, ground := Ground.data }, { on := 6, ground := Ground.data }, { on := 8, ground := Ground.data }], guard := none }
def mo10 : Oper := { dst := some 15, op := Op.alloc 62, type := 0, pos := "pieces.go:20", after := #[], guard := none }
def mo11 : Oper := { dst := none, op := Op.store 62 (Operand.tmp 15) (Operand.tmp 48), type := 0, pos := "pieces.go:20", after := #[{ on := 10, ground := Ground.data }, { on := 9, ground := Ground.data }, { on := 6, ground := Ground.chain }, { on := 0, ground := Ground.phase }, { on := 1, ground := Ground.phase }, { on := 2, ground := Ground.phase }, { on := 3, ground := Ground.phase }, { on := 4, ground := Ground.phase }, { on := 5, ground := Ground.phase }, { on := 6, ground := Ground.phase }, { on := 7, ground := Ground.phase }, { on := 8, ground := Ground.phase }, { on := 9, ground := Ground.phase }, { on := 10, ground := Ground.phase }], guard := none }
def mops : Array Oper := #[mo0, mo1, mo2, mo3, mo4, mo5, mo6, mo7, mo8, mo9, mo10, mo11]
/-- what the making of the manifest leaves -/
def MkC (w2 : World) (k n t m : Nat) (D : List Nat) (pv : Value) (wx : World) : Prop := ∃ mb gd, pv = .pointer (some ⟨mb, 0, none⟩) ∧ ManAt wx mb k n t m D (.slice (some ⟨gd, 0, none⟩) t t) ∧ wx.there gd 0 (t * 32) ∧ Below w2.heap.size w2 wx ∧ w2.heap.size ≤ mb ∧ w2.heap.size ≤ gd ∧ gd ≠ mb ∧ gd < wx.heap.size
theorem mk_leaf {w2 wx w8 : World} {k n t m mb gd : Nat} {D : List Nat} (h1 : w8.heap[mb]? = some (.cells (mcells k n t m D (.slice (some ⟨gd, 0, none⟩) t t)).toArray 62 (0, 0))) (h2 : Kept mb wx w8) (h3 : wx.there gd 0 (t * 32)) (h4 : Below w2.heap.size w2 wx) (h5 : w2.heap.size ≤ mb) (h6 : w2.heap.size ≤ gd) (h7 : gd ≠ mb) (h8 : gd < wx.heap.size) :
    MkC w2 k n t m D (.pointer (some ⟨mb, 0, none⟩)) w8 :=
  ⟨mb, gd, rfl, h1, there_same h3 (h2.block gd h8 h7), h4.trans (h2.below h4.size h5), h5, h6, h7, Nat.lt_of_lt_of_le h8 h2.size⟩
theorem put_comm (a : Act) {s r : Tmp} (v u : Value) (h : s ≠ r) : (a.put (some s) v).put (some r) u = (a.put (some r) u).put (some s) v := by
  simp only [Act.put]
  rw [Array.setIfInBounds_comm _ _ h]

set_option maxRecDepth 100000 in
set_option maxHeartbeats 4000000 in
theorem mk_region (a0 : Act) (w2 : World) (Q : Exit → Act → World → Prop) (hP : ∀ (s : Option Tmp) (v : Value) c (a : Act) (w : World), Q (.panic c) (a.put s v) w → Q (.panic c) a w) (k n t m c : Nat) (a : Option Addr) (D : List Nat) (hD : D.length = 32) (ht : t ≤ 100000) (hsz0 : a0.tmps.size = 68) (h0_1 : a0.eval (.tmp 1) = .int .i64 (k : Int)) (h0_2 : a0.eval (.tmp 2) = .int .i64 (n : Int)) (h0_3 : a0.eval (.tmp 3) = .int .i64 (t : Int)) (h0_4 : a0.eval (.tmp 4) = .slice a m c)
    (HSHA : ∀ wx, Below w2.heap.size w2 wx → Calls Tryz.prog 60 #[.slice a m c] wx fun e w' => e = .returned (.agg (u8s D).toArray) ∧ Below wx.heap.size wx w')
    (fin : ∀ v45 v47 v48 pv w8, MkC w2 k n t m D pv w8 → Q .normal (((((((((((a0.put (some 39) (.int .i64 (k : Int))).put (some 40) (.int .i64 (n : Int))).put (some 41) (.int .i64 (t : Int))).put (some 42) (.slice a m c)).put (some 43) (.int .i64 (m : Int))).put (some 44) (.slice a m c)).put (some 46) (.int .i64 (t : Int))).put (some 45) v45).put (some 47) v47).put (some 48) v48).put (some 15) pv) w8) :
    (Code.region 8 mops true).wp Tryz.prog Q a0 w2 := by
  have HBM := fun gd => built_man k n t m D hD (some ⟨gd, 0, none⟩) t t
  have HIF := fun gd => (show (Tryz.prog.info? 62).map (·.size) = some (mcells k n t m D (.slice (some ⟨gd, 0, none⟩) t t)).toArray.size from by rw [List.size_toArray, mcells_length _ _ _ _ _ _ hD]; kernel_rfl)
  have HSZ := fun gd => (show mz.size = (mcells k n t m D (.slice (some ⟨gd, 0, none⟩) t t)).toArray.size from by rw [show (mcells k n t m D (.slice (some ⟨gd, 0, none⟩) t t)).toArray.size = 37 from by rw [List.size_toArray, mcells_length _ _ _ _ _ _ hD]]; rfl)
  have HONE := fun gd => mcells_one k n t m D (some ⟨gd, 0, none⟩) t t
  refine wp_region_any (by kernel_rfl) ?_
  obtain ⟨wd, hwd⟩ : ∃ x, x = World.drew w2 := ⟨_, rfl⟩
  change wpAny _ _ _ _ _ _ _ (World.drew w2)
  rw [← hwd]
  have hb0 : Below w2.heap.size w2 wd := by rw [hwd]; exact bel_drewN (Below.refl _ _) 1
  clear hwd
  have y0 : Yields Tryz.prog mops mo0 (.int .i64 (k : Int)) (a0) := yields_move (.tmp 1) rfl rfl h0_1
  refine wpAny_take (i := 0) (oi := mo0) (v := .int .i64 (k : Int)) rfl (by kernel_rfl) (by kernel_rfl) (by kernel_rfl) (fun c a w h => hP _ _ c a w h) y0 ?_
  change wpAny _ _ _ _ _ _ ((a0).put (some 39) (.int .i64 (k : Int))) _
  clear y0
  have y1 : Yields Tryz.prog mops mo1 (.int .i64 (n : Int)) ((a0).put (some 39) (.int .i64 (k : Int))) := yields_move (.tmp 2) rfl rfl ((ev_other (by decide)).trans h0_2)
  refine wpAny_take (i := 1) (oi := mo1) (v := .int .i64 (n : Int)) rfl (by kernel_rfl) (by kernel_rfl) (by kernel_rfl) (fun c a w h => hP _ _ c a w h) y1 ?_
  change wpAny _ _ _ _ _ _ (((a0).put (some 39) (.int .i64 (k : Int))).put (some 40) (.int .i64 (n : Int))) _
  clear y1
  have y2 : Yields Tryz.prog mops mo2 (.int .i64 (t : Int)) (((a0).put (some 39) (.int .i64 (k : Int))).put (some 40) (.int .i64 (n : Int))) := yields_move (.tmp 3) rfl rfl ((ev_other (by decide)).trans ((ev_other (by decide)).trans h0_3))
  refine wpAny_take (i := 2) (oi := mo2) (v := .int .i64 (t : Int)) rfl (by kernel_rfl) (by kernel_rfl) (by kernel_rfl) (fun c a w h => hP _ _ c a w h) y2 ?_
  change wpAny _ _ _ _ _ _ ((((a0).put (some 39) (.int .i64 (k : Int))).put (some 40) (.int .i64 (n : Int))).put (some 41) (.int .i64 (t : Int))) _
  clear y2
  have y3 : Yields Tryz.prog mops mo3 (.slice a m c) ((((a0).put (some 39) (.int .i64 (k : Int))).put (some 40) (.int .i64 (n : Int))).put (some 41) (.int .i64 (t : Int))) := yields_move (.tmp 4) rfl rfl ((ev_other (by decide)).trans ((ev_other (by decide)).trans ((ev_other (by decide)).trans h0_4)))
  refine wpAny_take (i := 3) (oi := mo3) (v := .slice a m c) rfl (by kernel_rfl) (by kernel_rfl) (by kernel_rfl) (fun c a w h => hP _ _ c a w h) y3 ?_
  change wpAny _ _ _ _ _ _ (((((a0).put (some 39) (.int .i64 (k : Int))).put (some 40) (.int .i64 (n : Int))).put (some 41) (.int .i64 (t : Int))).put (some 42) (.slice a m c)) _
  clear y3
  have y4 : Yields Tryz.prog mops mo4 (.int .i64 (m : Int)) (((((a0).put (some 39) (.int .i64 (k : Int))).put (some 40) (.int .i64 (n : Int))).put (some 41) (.int .i64 (t : Int))).put (some 42) (.slice a m c)) := yields_op (v := .int .i64 (m : Int)) rfl (run_len_op (.tmp 42) #[66] rfl (ev_same (by simp only [put_sz, hsz0]; decide)) (len_u8 a m c))
  refine wpAny_take (i := 4) (oi := mo4) (v := .int .i64 (m : Int)) rfl (by kernel_rfl) (by kernel_rfl) (by kernel_rfl) (fun c a w h => hP _ _ c a w h) y4 ?_
  change wpAny _ _ _ _ _ _ ((((((a0).put (some 39) (.int .i64 (k : Int))).put (some 40) (.int .i64 (n : Int))).put (some 41) (.int .i64 (t : Int))).put (some 42) (.slice a m c)).put (some 43) (.int .i64 (m : Int))) _
  clear y4
  have y5 : Yields Tryz.prog mops mo5 (.slice a m c) ((((((a0).put (some 39) (.int .i64 (k : Int))).put (some 40) (.int .i64 (n : Int))).put (some 41) (.int .i64 (t : Int))).put (some 42) (.slice a m c)).put (some 43) (.int .i64 (m : Int))) := yields_move (.tmp 4) rfl rfl ((ev_other (by decide)).trans ((ev_other (by decide)).trans ((ev_other (by decide)).trans ((ev_other (by decide)).trans ((ev_other (by decide)).trans h0_4)))))
  refine wpAny_take (i := 5) (oi := mo5) (v := .slice a m c) rfl (by kernel_rfl) (by kernel_rfl) (by kernel_rfl) (fun c a w h => hP _ _ c a w h) y5 ?_
  change wpAny _ _ _ _ _ _ (((((((a0).put (some 39) (.int .i64 (k : Int))).put (some 40) (.int .i64 (n : Int))).put (some 41) (.int .i64 (t : Int))).put (some 42) (.slice a m c)).put (some 43) (.int .i64 (m : Int))).put (some 44) (.slice a m c)) _
  clear y5
  have y7 : Yields Tryz.prog mops mo7 (.int .i64 (t : Int)) (((((((a0).put (some 39) (.int .i64 (k : Int))).put (some 40) (.int .i64 (n : Int))).put (some 41) (.int .i64 (t : Int))).put (some 42) (.slice a m c)).put (some 43) (.int .i64 (m : Int))).put (some 44) (.slice a m c)) := yields_move (.tmp 3) rfl rfl ((ev_other (by decide)).trans ((ev_other (by decide)).trans ((ev_other (by decide)).trans ((ev_other (by decide)).trans ((ev_other (by decide)).trans ((ev_other (by decide)).trans h0_3))))))
  refine wpAny_take (i := 7) (oi := mo7) (v := .int .i64 (t : Int)) rfl (by kernel_rfl) (by kernel_rfl) (by kernel_rfl) (fun c a w h => hP _ _ c a w h) y7 ?_
  change wpAny _ _ _ _ _ _ ((((((((a0).put (some 39) (.int .i64 (k : Int))).put (some 40) (.int .i64 (n : Int))).put (some 41) (.int .i64 (t : Int))).put (some 42) (.slice a m c)).put (some 43) (.int .i64 (m : Int))).put (some 44) (.slice a m c)).put (some 46) (.int .i64 (t : Int))) _
  clear y7
  generalize hA : (((((((a0).put (some 39) (.int .i64 (k : Int))).put (some 40) (.int .i64 (n : Int))).put (some 41) (.int .i64 (t : Int))).put (some 42) (.slice a m c)).put (some 43) (.int .i64 (m : Int))).put (some 44) (.slice a m c)).put (some 46) (.int .i64 (t : Int)) = A at *
  have e39 : A.eval (.tmp 39) = .int .i64 (k : Int) := by rw [← hA]; exact ((ev_other (by decide)).trans ((ev_other (by decide)).trans ((ev_other (by decide)).trans ((ev_other (by decide)).trans ((ev_other (by decide)).trans ((ev_other (by decide)).trans (ev_same (by simp only [hsz0]; decide))))))))
  have e40 : A.eval (.tmp 40) = .int .i64 (n : Int) := by rw [← hA]; exact ((ev_other (by decide)).trans ((ev_other (by decide)).trans ((ev_other (by decide)).trans ((ev_other (by decide)).trans ((ev_other (by decide)).trans (ev_same (by simp only [put_sz, hsz0]; decide)))))))
  have e41 : A.eval (.tmp 41) = .int .i64 (t : Int) := by rw [← hA]; exact ((ev_other (by decide)).trans ((ev_other (by decide)).trans ((ev_other (by decide)).trans ((ev_other (by decide)).trans (ev_same (by simp only [put_sz, hsz0]; decide))))))
  have e43 : A.eval (.tmp 43) = .int .i64 (m : Int) := by rw [← hA]; exact ((ev_other (by decide)).trans ((ev_other (by decide)).trans (ev_same (by simp only [put_sz, hsz0]; decide))))
  have e44 : A.eval (.tmp 44) = .slice a m c := by rw [← hA]; exact ((ev_other (by decide)).trans (ev_same (by simp only [put_sz, hsz0]; decide)))
  have e46 : A.eval (.tmp 46) = .int .i64 (t : Int) := by rw [← hA]; exact (ev_same (by simp only [put_sz, hsz0]; decide))
  have hszA : A.tmps.size = 68 := by rw [← hA]; simp only [put_sz, hsz0]
  clear hA h0_1 h0_2 h0_3 h0_4 hsz0
  refine wpAny_ready (rs := [6, 8, 10]) (by kernel_rfl) (by simp) ?_
  refine AllReady.cons (o := mo6) rfl (fun K hK => ?_) ?_
  · refine step_call rfl (run_call_op 60 (.tmp 44) #[66] rfl call_sha e44 _) (HSHA wd hb0) ?_
    intro w101 hn1
    have hb1 := hb0.trans (hn1.mono hb0.size)
    refine hK _ _ ?_
    clear hK K
    change wpAny _ _ _ _ _ _ ((A).put (some 45) (.agg (u8s D).toArray)) _
    refine wpAny_ready (rs := [8, 10]) (by kernel_rfl) (by simp) ?_
    refine AllReady.cons (o := mo8) rfl (fun K hK => ?_) ?_
    · refine step_mkd rfl (.tmp 46) rfl t ht ((ev_other (by decide)).trans e46) ?_
      intro gd w102 hgd hth2 hn2 hgl2
      have hgge : w2.heap.size ≤ gd := by rw [hgd]; exact hb1.size
      have hb2 := hb1.trans (hn2.mono hb1.size)
      refine hK _ _ ?_
      clear hK K
      change wpAny _ _ _ _ _ _ (((A).put (some 45) (.agg (u8s D).toArray)).put (some 47) (.slice (some ⟨gd, 0, none⟩) t t)) _
      have yb : Yields Tryz.prog mops mo9 (.agg (mcells k n t m D (.slice (some ⟨gd, 0, none⟩) t t)).toArray) (((A).put (some 45) (.agg (u8s D).toArray)).put (some 47) (.slice (some ⟨gd, 0, none⟩) t t)) := yields_build rfl 62 (.tmp 39) (.tmp 40) (.tmp 41) (.tmp 43) (.tmp 45) (.tmp 47) rfl ((ev_other (by decide)).trans ((ev_other (by decide)).trans e39)) ((ev_other (by decide)).trans ((ev_other (by decide)).trans e40)) ((ev_other (by decide)).trans ((ev_other (by decide)).trans e41)) ((ev_other (by decide)).trans ((ev_other (by decide)).trans e43)) ((ev_other (by decide)).trans (ev_same (by simp only [hszA]; decide))) (ev_same (by simp only [put_sz, hszA]; decide)) (HBM gd)
      refine wpAny_take (i := 9) (oi := mo9) rfl (by kernel_rfl) (by kernel_rfl) (by kernel_rfl) (fun c a w h => hP _ _ c a w h) yb ?_
      change wpAny _ _ _ _ _ _ ((((A).put (some 45) (.agg (u8s D).toArray)).put (some 47) (.slice (some ⟨gd, 0, none⟩) t t)).put (some 48) (.agg (mcells k n t m D (.slice (some ⟨gd, 0, none⟩) t t)).toArray)) _
      clear yb
      refine wpAny_ready (rs := [10]) (by kernel_rfl) (by simp) ?_
      refine AllReady.cons (o := mo10) rfl (fun K hK => ?_) AllReady.nil
      refine step_mkm rfl rfl ?_
      intro mb w103 hmbe hmb3 hn3 hml3
      have hmge : w2.heap.size ≤ mb := by rw [hmbe]; exact hb2.size
      have hb3 := hb2.trans (hn3.mono hb2.size)
      have hth3 := there_same hth2 (hn3.block _ hgl2)
      have hgl3 := Nat.lt_of_lt_of_le hgl2 hn3.size
      refine hK _ _ ?_
      clear hK K
      change wpAny _ _ _ _ _ _ (((((A).put (some 45) (.agg (u8s D).toArray)).put (some 47) (.slice (some ⟨gd, 0, none⟩) t t)).put (some 48) (.agg (mcells k n t m D (.slice (some ⟨gd, 0, none⟩) t t)).toArray)).put (some 15) (.pointer (some ⟨mb, 0, none⟩))) _
      refine wpAny_ready (rs := [11]) (by kernel_rfl) (by simp) ?_
      refine AllReady.cons (o := mo11) rfl (fun K hK => ?_) AllReady.nil
      refine step_store_row rfl 62 (.tmp 15) (.tmp 48) rfl mb mz (mcells k n t m D (.slice (some ⟨gd, 0, none⟩) t t)).toArray 62 (ev_same (by simp only [put_sz, hszA]; decide)) ((ev_other (by decide)).trans (ev_same (by simp only [put_sz, hszA]; decide))) hmb3 (HIF _) (HSZ _) (HONE _) ?_
      intro w8 hw8 hk8
      refine hK _ _ ?_
      refine wpAny_done (by kernel_rfl) ?_ _
      have LV := mk_leaf hw8 hk8 hth3 hb3 hmge hgge (by omega) hgl3
      have F := fin (.agg (u8s D).toArray) (.slice (some ⟨gd, 0, none⟩) t t) (.agg (mcells k n t m D (.slice (some ⟨gd, 0, none⟩) t t)).toArray) _ _ LV
      have FE : ((((A).put (some 45) (.agg (u8s D).toArray)).put (some 47) (.slice (some ⟨gd, 0, none⟩) t t)).put (some 48) (.agg (mcells k n t m D (.slice (some ⟨gd, 0, none⟩) t t)).toArray)).put (some 15) (.pointer (some ⟨mb, 0, none⟩)) = ((((A).put (some 45) (.agg (u8s D).toArray)).put (some 47) (.slice (some ⟨gd, 0, none⟩) t t)).put (some 48) (.agg (mcells k n t m D (.slice (some ⟨gd, 0, none⟩) t t)).toArray)).put (some 15) (.pointer (some ⟨mb, 0, none⟩)) := by rfl
      rw [← FE] at F
      exact F
    refine AllReady.cons (o := mo10) rfl (fun K hK => ?_) AllReady.nil
    refine step_mkm rfl rfl ?_
    intro mb w102 hmbe hmb2 hn2 hml2
    have hmge : w2.heap.size ≤ mb := by rw [hmbe]; exact hb1.size
    have hb2 := hb1.trans (hn2.mono hb1.size)
    refine hK _ _ ?_
    clear hK K
    change wpAny _ _ _ _ _ _ (((A).put (some 45) (.agg (u8s D).toArray)).put (some 15) (.pointer (some ⟨mb, 0, none⟩))) _
    refine wpAny_ready (rs := [8]) (by kernel_rfl) (by simp) ?_
    refine AllReady.cons (o := mo8) rfl (fun K hK => ?_) AllReady.nil
    refine step_mkd rfl (.tmp 46) rfl t ht ((ev_other (by decide)).trans ((ev_other (by decide)).trans e46)) ?_
    intro gd w103 hgd hth3 hn3 hgl3
    have hgge : w2.heap.size ≤ gd := by rw [hgd]; exact hb2.size
    have hb3 := hb2.trans (hn3.mono hb2.size)
    have hmb3 := (hn3.block _ hml2).trans hmb2
    have hml3 := Nat.lt_of_lt_of_le hml2 hn3.size
    refine hK _ _ ?_
    clear hK K
    change wpAny _ _ _ _ _ _ ((((A).put (some 45) (.agg (u8s D).toArray)).put (some 15) (.pointer (some ⟨mb, 0, none⟩))).put (some 47) (.slice (some ⟨gd, 0, none⟩) t t)) _
    have yb : Yields Tryz.prog mops mo9 (.agg (mcells k n t m D (.slice (some ⟨gd, 0, none⟩) t t)).toArray) ((((A).put (some 45) (.agg (u8s D).toArray)).put (some 15) (.pointer (some ⟨mb, 0, none⟩))).put (some 47) (.slice (some ⟨gd, 0, none⟩) t t)) := yields_build rfl 62 (.tmp 39) (.tmp 40) (.tmp 41) (.tmp 43) (.tmp 45) (.tmp 47) rfl ((ev_other (by decide)).trans ((ev_other (by decide)).trans ((ev_other (by decide)).trans e39))) ((ev_other (by decide)).trans ((ev_other (by decide)).trans ((ev_other (by decide)).trans e40))) ((ev_other (by decide)).trans ((ev_other (by decide)).trans ((ev_other (by decide)).trans e41))) ((ev_other (by decide)).trans ((ev_other (by decide)).trans ((ev_other (by decide)).trans e43))) ((ev_other (by decide)).trans ((ev_other (by decide)).trans (ev_same (by simp only [hszA]; decide)))) (ev_same (by simp only [put_sz, hszA]; decide)) (HBM gd)
    refine wpAny_take (i := 9) (oi := mo9) rfl (by kernel_rfl) (by kernel_rfl) (by kernel_rfl) (fun c a w h => hP _ _ c a w h) yb ?_
    change wpAny _ _ _ _ _ _ (((((A).put (some 45) (.agg (u8s D).toArray)).put (some 15) (.pointer (some ⟨mb, 0, none⟩))).put (some 47) (.slice (some ⟨gd, 0, none⟩) t t)).put (some 48) (.agg (mcells k n t m D (.slice (some ⟨gd, 0, none⟩) t t)).toArray)) _
    clear yb
    refine wpAny_ready (rs := [11]) (by kernel_rfl) (by simp) ?_
    refine AllReady.cons (o := mo11) rfl (fun K hK => ?_) AllReady.nil
    refine step_store_row rfl 62 (.tmp 15) (.tmp 48) rfl mb mz (mcells k n t m D (.slice (some ⟨gd, 0, none⟩) t t)).toArray 62 ((ev_other (by decide)).trans ((ev_other (by decide)).trans (ev_same (by simp only [put_sz, hszA]; decide)))) (ev_same (by simp only [put_sz, hszA]; decide)) hmb3 (HIF _) (HSZ _) (HONE _) ?_
    intro w8 hw8 hk8
    refine hK _ _ ?_
    refine wpAny_done (by kernel_rfl) ?_ _
    have LV := mk_leaf hw8 hk8 hth3 hb3 hmge hgge (by omega) hgl3
    have F := fin (.agg (u8s D).toArray) (.slice (some ⟨gd, 0, none⟩) t t) (.agg (mcells k n t m D (.slice (some ⟨gd, 0, none⟩) t t)).toArray) _ _ LV
    have FE : ((((A).put (some 45) (.agg (u8s D).toArray)).put (some 15) (.pointer (some ⟨mb, 0, none⟩))).put (some 47) (.slice (some ⟨gd, 0, none⟩) t t)).put (some 48) (.agg (mcells k n t m D (.slice (some ⟨gd, 0, none⟩) t t)).toArray) = ((((A).put (some 45) (.agg (u8s D).toArray)).put (some 47) (.slice (some ⟨gd, 0, none⟩) t t)).put (some 48) (.agg (mcells k n t m D (.slice (some ⟨gd, 0, none⟩) t t)).toArray)).put (some 15) (.pointer (some ⟨mb, 0, none⟩)) := by rw [put_comm ((A).put (some 45) (.agg (u8s D).toArray)) (.pointer (some ⟨mb, 0, none⟩)) (.slice (some ⟨gd, 0, none⟩) t t) (by decide), put_comm (((A).put (some 45) (.agg (u8s D).toArray)).put (some 47) (.slice (some ⟨gd, 0, none⟩) t t)) (.pointer (some ⟨mb, 0, none⟩)) (.agg (mcells k n t m D (.slice (some ⟨gd, 0, none⟩) t t)).toArray) (by decide)]
    rw [← FE] at F
    exact F
  refine AllReady.cons (o := mo8) rfl (fun K hK => ?_) ?_
  · refine step_mkd rfl (.tmp 46) rfl t ht e46 ?_
    intro gd w101 hgd hth1 hn1 hgl1
    have hgge : w2.heap.size ≤ gd := by rw [hgd]; exact hb0.size
    have hb1 := hb0.trans (hn1.mono hb0.size)
    refine hK _ _ ?_
    clear hK K
    change wpAny _ _ _ _ _ _ ((A).put (some 47) (.slice (some ⟨gd, 0, none⟩) t t)) _
    refine wpAny_ready (rs := [6, 10]) (by kernel_rfl) (by simp) ?_
    refine AllReady.cons (o := mo6) rfl (fun K hK => ?_) ?_
    · refine step_call rfl (run_call_op 60 (.tmp 44) #[66] rfl call_sha ((ev_other (by decide)).trans e44) _) (HSHA w101 hb1) ?_
      intro w102 hn2
      have hb2 := hb1.trans (hn2.mono hb1.size)
      have hth2 := there_same hth1 (hn2.block _ hgl1)
      have hgl2 := Nat.lt_of_lt_of_le hgl1 hn2.size
      refine hK _ _ ?_
      clear hK K
      change wpAny _ _ _ _ _ _ (((A).put (some 47) (.slice (some ⟨gd, 0, none⟩) t t)).put (some 45) (.agg (u8s D).toArray)) _
      have yb : Yields Tryz.prog mops mo9 (.agg (mcells k n t m D (.slice (some ⟨gd, 0, none⟩) t t)).toArray) (((A).put (some 47) (.slice (some ⟨gd, 0, none⟩) t t)).put (some 45) (.agg (u8s D).toArray)) := yields_build rfl 62 (.tmp 39) (.tmp 40) (.tmp 41) (.tmp 43) (.tmp 45) (.tmp 47) rfl ((ev_other (by decide)).trans ((ev_other (by decide)).trans e39)) ((ev_other (by decide)).trans ((ev_other (by decide)).trans e40)) ((ev_other (by decide)).trans ((ev_other (by decide)).trans e41)) ((ev_other (by decide)).trans ((ev_other (by decide)).trans e43)) (ev_same (by simp only [put_sz, hszA]; decide)) ((ev_other (by decide)).trans (ev_same (by simp only [hszA]; decide))) (HBM gd)
      refine wpAny_take (i := 9) (oi := mo9) rfl (by kernel_rfl) (by kernel_rfl) (by kernel_rfl) (fun c a w h => hP _ _ c a w h) yb ?_
      change wpAny _ _ _ _ _ _ ((((A).put (some 47) (.slice (some ⟨gd, 0, none⟩) t t)).put (some 45) (.agg (u8s D).toArray)).put (some 48) (.agg (mcells k n t m D (.slice (some ⟨gd, 0, none⟩) t t)).toArray)) _
      clear yb
      refine wpAny_ready (rs := [10]) (by kernel_rfl) (by simp) ?_
      refine AllReady.cons (o := mo10) rfl (fun K hK => ?_) AllReady.nil
      refine step_mkm rfl rfl ?_
      intro mb w103 hmbe hmb3 hn3 hml3
      have hmge : w2.heap.size ≤ mb := by rw [hmbe]; exact hb2.size
      have hb3 := hb2.trans (hn3.mono hb2.size)
      have hth3 := there_same hth2 (hn3.block _ hgl2)
      have hgl3 := Nat.lt_of_lt_of_le hgl2 hn3.size
      refine hK _ _ ?_
      clear hK K
      change wpAny _ _ _ _ _ _ (((((A).put (some 47) (.slice (some ⟨gd, 0, none⟩) t t)).put (some 45) (.agg (u8s D).toArray)).put (some 48) (.agg (mcells k n t m D (.slice (some ⟨gd, 0, none⟩) t t)).toArray)).put (some 15) (.pointer (some ⟨mb, 0, none⟩))) _
      refine wpAny_ready (rs := [11]) (by kernel_rfl) (by simp) ?_
      refine AllReady.cons (o := mo11) rfl (fun K hK => ?_) AllReady.nil
      refine step_store_row rfl 62 (.tmp 15) (.tmp 48) rfl mb mz (mcells k n t m D (.slice (some ⟨gd, 0, none⟩) t t)).toArray 62 (ev_same (by simp only [put_sz, hszA]; decide)) ((ev_other (by decide)).trans (ev_same (by simp only [put_sz, hszA]; decide))) hmb3 (HIF _) (HSZ _) (HONE _) ?_
      intro w8 hw8 hk8
      refine hK _ _ ?_
      refine wpAny_done (by kernel_rfl) ?_ _
      have LV := mk_leaf hw8 hk8 hth3 hb3 hmge hgge (by omega) hgl3
      have F := fin (.agg (u8s D).toArray) (.slice (some ⟨gd, 0, none⟩) t t) (.agg (mcells k n t m D (.slice (some ⟨gd, 0, none⟩) t t)).toArray) _ _ LV
      have FE : ((((A).put (some 47) (.slice (some ⟨gd, 0, none⟩) t t)).put (some 45) (.agg (u8s D).toArray)).put (some 48) (.agg (mcells k n t m D (.slice (some ⟨gd, 0, none⟩) t t)).toArray)).put (some 15) (.pointer (some ⟨mb, 0, none⟩)) = ((((A).put (some 45) (.agg (u8s D).toArray)).put (some 47) (.slice (some ⟨gd, 0, none⟩) t t)).put (some 48) (.agg (mcells k n t m D (.slice (some ⟨gd, 0, none⟩) t t)).toArray)).put (some 15) (.pointer (some ⟨mb, 0, none⟩)) := by rw [put_comm (A) (.slice (some ⟨gd, 0, none⟩) t t) (.agg (u8s D).toArray) (by decide)]
      rw [← FE] at F
      exact F
    refine AllReady.cons (o := mo10) rfl (fun K hK => ?_) AllReady.nil
    refine step_mkm rfl rfl ?_
    intro mb w102 hmbe hmb2 hn2 hml2
    have hmge : w2.heap.size ≤ mb := by rw [hmbe]; exact hb1.size
    have hb2 := hb1.trans (hn2.mono hb1.size)
    have hth2 := there_same hth1 (hn2.block _ hgl1)
    have hgl2 := Nat.lt_of_lt_of_le hgl1 hn2.size
    refine hK _ _ ?_
    clear hK K
    change wpAny _ _ _ _ _ _ (((A).put (some 47) (.slice (some ⟨gd, 0, none⟩) t t)).put (some 15) (.pointer (some ⟨mb, 0, none⟩))) _
    refine wpAny_ready (rs := [6]) (by kernel_rfl) (by simp) ?_
    refine AllReady.cons (o := mo6) rfl (fun K hK => ?_) AllReady.nil
    refine step_call rfl (run_call_op 60 (.tmp 44) #[66] rfl call_sha ((ev_other (by decide)).trans ((ev_other (by decide)).trans e44)) _) (HSHA w102 hb2) ?_
    intro w103 hn3
    have hb3 := hb2.trans (hn3.mono hb2.size)
    have hth3 := there_same hth2 (hn3.block _ hgl2)
    have hgl3 := Nat.lt_of_lt_of_le hgl2 hn3.size
    have hmb3 := (hn3.block _ hml2).trans hmb2
    have hml3 := Nat.lt_of_lt_of_le hml2 hn3.size
    refine hK _ _ ?_
    clear hK K
    change wpAny _ _ _ _ _ _ ((((A).put (some 47) (.slice (some ⟨gd, 0, none⟩) t t)).put (some 15) (.pointer (some ⟨mb, 0, none⟩))).put (some 45) (.agg (u8s D).toArray)) _
    have yb : Yields Tryz.prog mops mo9 (.agg (mcells k n t m D (.slice (some ⟨gd, 0, none⟩) t t)).toArray) ((((A).put (some 47) (.slice (some ⟨gd, 0, none⟩) t t)).put (some 15) (.pointer (some ⟨mb, 0, none⟩))).put (some 45) (.agg (u8s D).toArray)) := yields_build rfl 62 (.tmp 39) (.tmp 40) (.tmp 41) (.tmp 43) (.tmp 45) (.tmp 47) rfl ((ev_other (by decide)).trans ((ev_other (by decide)).trans ((ev_other (by decide)).trans e39))) ((ev_other (by decide)).trans ((ev_other (by decide)).trans ((ev_other (by decide)).trans e40))) ((ev_other (by decide)).trans ((ev_other (by decide)).trans ((ev_other (by decide)).trans e41))) ((ev_other (by decide)).trans ((ev_other (by decide)).trans ((ev_other (by decide)).trans e43))) (ev_same (by simp only [put_sz, hszA]; decide)) ((ev_other (by decide)).trans ((ev_other (by decide)).trans (ev_same (by simp only [hszA]; decide)))) (HBM gd)
    refine wpAny_take (i := 9) (oi := mo9) rfl (by kernel_rfl) (by kernel_rfl) (by kernel_rfl) (fun c a w h => hP _ _ c a w h) yb ?_
    change wpAny _ _ _ _ _ _ (((((A).put (some 47) (.slice (some ⟨gd, 0, none⟩) t t)).put (some 15) (.pointer (some ⟨mb, 0, none⟩))).put (some 45) (.agg (u8s D).toArray)).put (some 48) (.agg (mcells k n t m D (.slice (some ⟨gd, 0, none⟩) t t)).toArray)) _
    clear yb
    refine wpAny_ready (rs := [11]) (by kernel_rfl) (by simp) ?_
    refine AllReady.cons (o := mo11) rfl (fun K hK => ?_) AllReady.nil
    refine step_store_row rfl 62 (.tmp 15) (.tmp 48) rfl mb mz (mcells k n t m D (.slice (some ⟨gd, 0, none⟩) t t)).toArray 62 ((ev_other (by decide)).trans ((ev_other (by decide)).trans (ev_same (by simp only [put_sz, hszA]; decide)))) (ev_same (by simp only [put_sz, hszA]; decide)) hmb3 (HIF _) (HSZ _) (HONE _) ?_
    intro w8 hw8 hk8
    refine hK _ _ ?_
    refine wpAny_done (by kernel_rfl) ?_ _
    have LV := mk_leaf hw8 hk8 hth3 hb3 hmge hgge (by omega) hgl3
    have F := fin (.agg (u8s D).toArray) (.slice (some ⟨gd, 0, none⟩) t t) (.agg (mcells k n t m D (.slice (some ⟨gd, 0, none⟩) t t)).toArray) _ _ LV
    have FE : ((((A).put (some 47) (.slice (some ⟨gd, 0, none⟩) t t)).put (some 15) (.pointer (some ⟨mb, 0, none⟩))).put (some 45) (.agg (u8s D).toArray)).put (some 48) (.agg (mcells k n t m D (.slice (some ⟨gd, 0, none⟩) t t)).toArray) = ((((A).put (some 45) (.agg (u8s D).toArray)).put (some 47) (.slice (some ⟨gd, 0, none⟩) t t)).put (some 48) (.agg (mcells k n t m D (.slice (some ⟨gd, 0, none⟩) t t)).toArray)).put (some 15) (.pointer (some ⟨mb, 0, none⟩)) := by rw [put_comm ((A).put (some 47) (.slice (some ⟨gd, 0, none⟩) t t)) (.pointer (some ⟨mb, 0, none⟩)) (.agg (u8s D).toArray) (by decide), put_comm (((A).put (some 47) (.slice (some ⟨gd, 0, none⟩) t t)).put (some 45) (.agg (u8s D).toArray)) (.pointer (some ⟨mb, 0, none⟩)) (.agg (mcells k n t m D (.slice (some ⟨gd, 0, none⟩) t t)).toArray) (by decide), put_comm (A) (.slice (some ⟨gd, 0, none⟩) t t) (.agg (u8s D).toArray) (by decide)]
    rw [← FE] at F
    exact F
  refine AllReady.cons (o := mo10) rfl (fun K hK => ?_) AllReady.nil
  refine step_mkm rfl rfl ?_
  intro mb w101 hmbe hmb1 hn1 hml1
  have hmge : w2.heap.size ≤ mb := by rw [hmbe]; exact hb0.size
  have hb1 := hb0.trans (hn1.mono hb0.size)
  refine hK _ _ ?_
  clear hK K
  change wpAny _ _ _ _ _ _ ((A).put (some 15) (.pointer (some ⟨mb, 0, none⟩))) _
  refine wpAny_ready (rs := [6, 8]) (by kernel_rfl) (by simp) ?_
  refine AllReady.cons (o := mo6) rfl (fun K hK => ?_) ?_
  · refine step_call rfl (run_call_op 60 (.tmp 44) #[66] rfl call_sha ((ev_other (by decide)).trans e44) _) (HSHA w101 hb1) ?_
    intro w102 hn2
    have hb2 := hb1.trans (hn2.mono hb1.size)
    have hmb2 := (hn2.block _ hml1).trans hmb1
    have hml2 := Nat.lt_of_lt_of_le hml1 hn2.size
    refine hK _ _ ?_
    clear hK K
    change wpAny _ _ _ _ _ _ (((A).put (some 15) (.pointer (some ⟨mb, 0, none⟩))).put (some 45) (.agg (u8s D).toArray)) _
    refine wpAny_ready (rs := [8]) (by kernel_rfl) (by simp) ?_
    refine AllReady.cons (o := mo8) rfl (fun K hK => ?_) AllReady.nil
    refine step_mkd rfl (.tmp 46) rfl t ht ((ev_other (by decide)).trans ((ev_other (by decide)).trans e46)) ?_
    intro gd w103 hgd hth3 hn3 hgl3
    have hgge : w2.heap.size ≤ gd := by rw [hgd]; exact hb2.size
    have hb3 := hb2.trans (hn3.mono hb2.size)
    have hmb3 := (hn3.block _ hml2).trans hmb2
    have hml3 := Nat.lt_of_lt_of_le hml2 hn3.size
    refine hK _ _ ?_
    clear hK K
    change wpAny _ _ _ _ _ _ ((((A).put (some 15) (.pointer (some ⟨mb, 0, none⟩))).put (some 45) (.agg (u8s D).toArray)).put (some 47) (.slice (some ⟨gd, 0, none⟩) t t)) _
    have yb : Yields Tryz.prog mops mo9 (.agg (mcells k n t m D (.slice (some ⟨gd, 0, none⟩) t t)).toArray) ((((A).put (some 15) (.pointer (some ⟨mb, 0, none⟩))).put (some 45) (.agg (u8s D).toArray)).put (some 47) (.slice (some ⟨gd, 0, none⟩) t t)) := yields_build rfl 62 (.tmp 39) (.tmp 40) (.tmp 41) (.tmp 43) (.tmp 45) (.tmp 47) rfl ((ev_other (by decide)).trans ((ev_other (by decide)).trans ((ev_other (by decide)).trans e39))) ((ev_other (by decide)).trans ((ev_other (by decide)).trans ((ev_other (by decide)).trans e40))) ((ev_other (by decide)).trans ((ev_other (by decide)).trans ((ev_other (by decide)).trans e41))) ((ev_other (by decide)).trans ((ev_other (by decide)).trans ((ev_other (by decide)).trans e43))) ((ev_other (by decide)).trans (ev_same (by simp only [put_sz, hszA]; decide))) (ev_same (by simp only [put_sz, hszA]; decide)) (HBM gd)
    refine wpAny_take (i := 9) (oi := mo9) rfl (by kernel_rfl) (by kernel_rfl) (by kernel_rfl) (fun c a w h => hP _ _ c a w h) yb ?_
    change wpAny _ _ _ _ _ _ (((((A).put (some 15) (.pointer (some ⟨mb, 0, none⟩))).put (some 45) (.agg (u8s D).toArray)).put (some 47) (.slice (some ⟨gd, 0, none⟩) t t)).put (some 48) (.agg (mcells k n t m D (.slice (some ⟨gd, 0, none⟩) t t)).toArray)) _
    clear yb
    refine wpAny_ready (rs := [11]) (by kernel_rfl) (by simp) ?_
    refine AllReady.cons (o := mo11) rfl (fun K hK => ?_) AllReady.nil
    refine step_store_row rfl 62 (.tmp 15) (.tmp 48) rfl mb mz (mcells k n t m D (.slice (some ⟨gd, 0, none⟩) t t)).toArray 62 ((ev_other (by decide)).trans ((ev_other (by decide)).trans ((ev_other (by decide)).trans (ev_same (by simp only [hszA]; decide))))) (ev_same (by simp only [put_sz, hszA]; decide)) hmb3 (HIF _) (HSZ _) (HONE _) ?_
    intro w8 hw8 hk8
    refine hK _ _ ?_
    refine wpAny_done (by kernel_rfl) ?_ _
    have LV := mk_leaf hw8 hk8 hth3 hb3 hmge hgge (by omega) hgl3
    have F := fin (.agg (u8s D).toArray) (.slice (some ⟨gd, 0, none⟩) t t) (.agg (mcells k n t m D (.slice (some ⟨gd, 0, none⟩) t t)).toArray) _ _ LV
    have FE : ((((A).put (some 15) (.pointer (some ⟨mb, 0, none⟩))).put (some 45) (.agg (u8s D).toArray)).put (some 47) (.slice (some ⟨gd, 0, none⟩) t t)).put (some 48) (.agg (mcells k n t m D (.slice (some ⟨gd, 0, none⟩) t t)).toArray) = ((((A).put (some 45) (.agg (u8s D).toArray)).put (some 47) (.slice (some ⟨gd, 0, none⟩) t t)).put (some 48) (.agg (mcells k n t m D (.slice (some ⟨gd, 0, none⟩) t t)).toArray)).put (some 15) (.pointer (some ⟨mb, 0, none⟩)) := by rw [put_comm (A) (.pointer (some ⟨mb, 0, none⟩)) (.agg (u8s D).toArray) (by decide), put_comm ((A).put (some 45) (.agg (u8s D).toArray)) (.pointer (some ⟨mb, 0, none⟩)) (.slice (some ⟨gd, 0, none⟩) t t) (by decide), put_comm (((A).put (some 45) (.agg (u8s D).toArray)).put (some 47) (.slice (some ⟨gd, 0, none⟩) t t)) (.pointer (some ⟨mb, 0, none⟩)) (.agg (mcells k n t m D (.slice (some ⟨gd, 0, none⟩) t t)).toArray) (by decide)]
    rw [← FE] at F
    exact F
  refine AllReady.cons (o := mo8) rfl (fun K hK => ?_) AllReady.nil
  refine step_mkd rfl (.tmp 46) rfl t ht ((ev_other (by decide)).trans e46) ?_
  intro gd w102 hgd hth2 hn2 hgl2
  have hgge : w2.heap.size ≤ gd := by rw [hgd]; exact hb1.size
  have hb2 := hb1.trans (hn2.mono hb1.size)
  have hmb2 := (hn2.block _ hml1).trans hmb1
  have hml2 := Nat.lt_of_lt_of_le hml1 hn2.size
  refine hK _ _ ?_
  clear hK K
  change wpAny _ _ _ _ _ _ (((A).put (some 15) (.pointer (some ⟨mb, 0, none⟩))).put (some 47) (.slice (some ⟨gd, 0, none⟩) t t)) _
  refine wpAny_ready (rs := [6]) (by kernel_rfl) (by simp) ?_
  refine AllReady.cons (o := mo6) rfl (fun K hK => ?_) AllReady.nil
  refine step_call rfl (run_call_op 60 (.tmp 44) #[66] rfl call_sha ((ev_other (by decide)).trans ((ev_other (by decide)).trans e44)) _) (HSHA w102 hb2) ?_
  intro w103 hn3
  have hb3 := hb2.trans (hn3.mono hb2.size)
  have hth3 := there_same hth2 (hn3.block _ hgl2)
  have hgl3 := Nat.lt_of_lt_of_le hgl2 hn3.size
  have hmb3 := (hn3.block _ hml2).trans hmb2
  have hml3 := Nat.lt_of_lt_of_le hml2 hn3.size
  refine hK _ _ ?_
  clear hK K
  change wpAny _ _ _ _ _ _ ((((A).put (some 15) (.pointer (some ⟨mb, 0, none⟩))).put (some 47) (.slice (some ⟨gd, 0, none⟩) t t)).put (some 45) (.agg (u8s D).toArray)) _
  have yb : Yields Tryz.prog mops mo9 (.agg (mcells k n t m D (.slice (some ⟨gd, 0, none⟩) t t)).toArray) ((((A).put (some 15) (.pointer (some ⟨mb, 0, none⟩))).put (some 47) (.slice (some ⟨gd, 0, none⟩) t t)).put (some 45) (.agg (u8s D).toArray)) := yields_build rfl 62 (.tmp 39) (.tmp 40) (.tmp 41) (.tmp 43) (.tmp 45) (.tmp 47) rfl ((ev_other (by decide)).trans ((ev_other (by decide)).trans ((ev_other (by decide)).trans e39))) ((ev_other (by decide)).trans ((ev_other (by decide)).trans ((ev_other (by decide)).trans e40))) ((ev_other (by decide)).trans ((ev_other (by decide)).trans ((ev_other (by decide)).trans e41))) ((ev_other (by decide)).trans ((ev_other (by decide)).trans ((ev_other (by decide)).trans e43))) (ev_same (by simp only [put_sz, hszA]; decide)) ((ev_other (by decide)).trans (ev_same (by simp only [put_sz, hszA]; decide))) (HBM gd)
  refine wpAny_take (i := 9) (oi := mo9) rfl (by kernel_rfl) (by kernel_rfl) (by kernel_rfl) (fun c a w h => hP _ _ c a w h) yb ?_
  change wpAny _ _ _ _ _ _ (((((A).put (some 15) (.pointer (some ⟨mb, 0, none⟩))).put (some 47) (.slice (some ⟨gd, 0, none⟩) t t)).put (some 45) (.agg (u8s D).toArray)).put (some 48) (.agg (mcells k n t m D (.slice (some ⟨gd, 0, none⟩) t t)).toArray)) _
  clear yb
  refine wpAny_ready (rs := [11]) (by kernel_rfl) (by simp) ?_
  refine AllReady.cons (o := mo11) rfl (fun K hK => ?_) AllReady.nil
  refine step_store_row rfl 62 (.tmp 15) (.tmp 48) rfl mb mz (mcells k n t m D (.slice (some ⟨gd, 0, none⟩) t t)).toArray 62 ((ev_other (by decide)).trans ((ev_other (by decide)).trans ((ev_other (by decide)).trans (ev_same (by simp only [hszA]; decide))))) (ev_same (by simp only [put_sz, hszA]; decide)) hmb3 (HIF _) (HSZ _) (HONE _) ?_
  intro w8 hw8 hk8
  refine hK _ _ ?_
  refine wpAny_done (by kernel_rfl) ?_ _
  have LV := mk_leaf hw8 hk8 hth3 hb3 hmge hgge (by omega) hgl3
  have F := fin (.agg (u8s D).toArray) (.slice (some ⟨gd, 0, none⟩) t t) (.agg (mcells k n t m D (.slice (some ⟨gd, 0, none⟩) t t)).toArray) _ _ LV
  have FE : ((((A).put (some 15) (.pointer (some ⟨mb, 0, none⟩))).put (some 47) (.slice (some ⟨gd, 0, none⟩) t t)).put (some 45) (.agg (u8s D).toArray)).put (some 48) (.agg (mcells k n t m D (.slice (some ⟨gd, 0, none⟩) t t)).toArray) = ((((A).put (some 45) (.agg (u8s D).toArray)).put (some 47) (.slice (some ⟨gd, 0, none⟩) t t)).put (some 48) (.agg (mcells k n t m D (.slice (some ⟨gd, 0, none⟩) t t)).toArray)).put (some 15) (.pointer (some ⟨mb, 0, none⟩)) := by rw [put_comm (A) (.pointer (some ⟨mb, 0, none⟩)) (.slice (some ⟨gd, 0, none⟩) t t) (by decide), put_comm ((A).put (some 47) (.slice (some ⟨gd, 0, none⟩) t t)) (.pointer (some ⟨mb, 0, none⟩)) (.agg (u8s D).toArray) (by decide), put_comm (((A).put (some 47) (.slice (some ⟨gd, 0, none⟩) t t)).put (some 45) (.agg (u8s D).toArray)) (.pointer (some ⟨mb, 0, none⟩)) (.agg (mcells k n t m D (.slice (some ⟨gd, 0, none⟩) t t)).toArray) (by decide), put_comm (A) (.slice (some ⟨gd, 0, none⟩) t t) (.agg (u8s D).toArray) (by decide)]
  rw [← FE] at F
  exact F
end Go.Proofs.YtjgiiciniplbnaaGreatDoor

namespace Go.Proofs.YtjgiiciniplbnaaGreatDoor
open Go Go.RowKit
set_option linter.unusedVariables false

theorem encM_length (d : List Nat) (k L i : Nat) : (encP d k L i).length = L := by
  unfold encP
  split
  · exact spl_length _ _ _
  · exact mixL_length _ _ _ _
theorem encM_lt (d : List Nat) (hd : ∀ i, d.getD i 0 < 256) (k L i : Nat) : ∀ n ∈ encP d k L i, n < 256 := by
  unfold encP
  split
  · intro n hn
    unfold spl at hn
    obtain ⟨c, _, rfl⟩ := List.mem_map.1 hn
    exact hd _
  · exact mixL_lt _ _ _ _ (fun i => getD_lt (wts_lt _ _ _) i)

theorem results_cell3 {fn : Func} {p u x : Tmp} {ty : TypeId} (h : fn.results = #[.cell p ty, .tmp u, .tmp x]) (tmps : Array Value) (P : Program) (w : World) :
    (results fn tmps).run P w = ((asAddr (tmps.getD p undef)).run P w).andThen fun a w₁ => ((loadVar ty a).run P w₁).andThen fun v w₂ => .ok (.tuple #[v, tmps.getD u undef, tmps.getD x undef]) w₂ := by
  simp only [results, h]
  simp [Sem.run_bind, Result.andThen]
theorem results_at3 {fn : Func} {p u x : Tmp} {ty : TypeId} (h : fn.results = #[.cell p ty, .tmp u, .tmp x]) {tmps : Array Value} {P : Program} {w : World} {ad : Addr} {v y z : Value} (hp : tmps.getD p undef = .pointer (some ad)) (hv : (loadVar ty ad).run P w = .ok v w) (hy : tmps.getD u undef = y) (hz : tmps.getD x undef = z) :
    (results fn tmps).run P w = .ok (.tuple #[v, y, z]) w := by
  rw [results_cell3 h, hp, hy, hz]
  simp [asAddr, hv, Result.andThen]
/-- the digest of piece j -/
def pdg (KC SH l : List Nat) (k L j : Nat) : List Nat := dig KC SH ([j / 256, j % 256] ++ encP l k L j)
/-- what the loop of Make keeps -/
structure MkI (fb rb mb g gd k n t m L : Nat) (KC SH l : List Nat) (bf : Nat → Nat) (w wr : World) (i : Nat) : Prop where
  pcs : Pcs wr g w.heap.size t L bf (encP l k L)
  man : ManAt wr mb k n t m (dig KC SH l) (.slice (some ⟨gd, 0, none⟩) t t)
  rng : ∀ j, j < i → wr.rangeAt gd (j * 32) (u8s (pdg KC SH l k L j))
  th : wr.there gd 0 (t * 32)
  gdl : gd < wr.heap.size
  built : Built wr fb
  kept : Kept fb w wr
  vars : Vars wr KC SH
  res : wr.heap[rb]? = some (.cells (mcells 0 0 0 0 (List.replicate 32 0) (.slice none 0 0)).toArray 62 (0, 0))
structure MkN (fb rb mb g gd t : Nat) (bf : Nat → Nat) (w : World) : Prop where
  ne : gd ≠ g ∧ gd ≠ mb ∧ gd ≠ fb ∧ gd ≠ rb ∧ mb ≠ rb
  low : w.heap.size ≤ gd ∧ w.heap.size ≤ mb ∧ w.heap.size ≤ g ∧ w.heap.size ≤ rb ∧ 3 ≤ w.heap.size ∧ fb < w.heap.size
  bfn : ∀ j, j < t → bf j ≠ gd
  gr : g ≠ rb
  bfr : ∀ j, j < t → bf j ≠ rb
theorem MkI.below {fb rb mb g gd k n t m L : Nat} {KC SH l : List Nat} {bf : Nat → Nat} {w wr w' : World} {i : Nat} (h : MkI fb rb mb g gd k n t m L KC SH l bf w wr i) (b : Below wr.heap.size wr w') : MkI fb rb mb g gd k n t m L KC SH l bf w w' i :=
  ⟨h.pcs.below b, (b.block _ (lt_of_heap h.man)).trans h.man, fun j hj => range_same (h.rng j hj) (b.block _ h.gdl), there_same h.th (b.block _ h.gdl), Nat.lt_of_lt_of_le h.gdl b.size, h.built.below b h.built.lt, h.kept.trans (Kept.of_below b), h.vars.below b, (b.block _ (lt_of_heap h.res)).trans h.res⟩
/-- what Make leaves -/
structure MkR (fb mb g gd k t m L : Nat) (KC SH l : List Nat) (bf : Nat → Nat) (w wr : World) : Prop where
  pcs : Pcs wr g w.heap.size t L bf (encP l k L)
  rng : ∀ j, j < t → wr.rangeAt gd (j * 32) (u8s (pdg KC SH l k L j))
  th : wr.there gd 0 (t * 32)
  gdl : gd < wr.heap.size
  built : Built wr fb
  kept : Kept fb w wr
  vars : Vars wr KC SH
theorem MkI.last {fb rb mb g gd k n t m L : Nat} {KC SH l : List Nat} {bf : Nat → Nat} {w wr w' : World} (h : MkI fb rb mb g gd k n t m L KC SH l bf w wr t) (N : MkN fb rb mb g gd t bf w) (b : Kept rb wr w') (hr : rb = w.heap.size) : MkR fb mb g gd k t m L KC SH l bf w w' := by
  obtain ⟨n1, n2, n3, n4, n5⟩ := N.ne
  obtain ⟨l1, l2, l3, l4, l5, l6⟩ := N.low
  exact ⟨⟨(b.block g h.pcs.own.lt N.gr).trans h.pcs.own, fun j hj => (b.block (bf j) (h.pcs.row j hj).lt (N.bfr j hj)).trans (h.pcs.row j hj), h.pcs.low, h.pcs.inj, h.pcs.notb⟩, fun j hj => range_same (h.rng j hj) (b.block gd h.gdl n4), there_same h.th (b.block gd h.gdl n4), Nat.lt_of_lt_of_le h.gdl b.size, (b.block fb h.built.lt (by omega)).trans h.built, h.kept.fresh b (by omega), h.vars.kept b (by omega)⟩
theorem MkI.store {fb rb mb g gd k n t m L : Nat} {KC SH l : List Nat} {bf : Nat → Nat} {w wr : World} {i : Nat} (h : MkI fb rb mb g gd k n t m L KC SH l bf w wr i) (N : MkN fb rb mb g gd t bf w) (hi : i < t) (hd : (u8s (pdg KC SH l k L i)).length = 32) : MkI fb rb mb g gd k n t m L KC SH l bf w (wr.setCells gd (i * 32) (u8s (pdg KC SH l k L i))) (i + 1) := by
  obtain ⟨n1, n2, n3, n4, n5⟩ := N.ne
  obtain ⟨l1, l2, l3, l4, l5, l6⟩ := N.low
  have hb : ∀ q, q ≠ gd → (wr.setCells gd (i * 32) (u8s (pdg KC SH l k L i))).heap[q]? = wr.heap[q]? := fun q hq => setCells_heap gd _ _ _ q hq
  refine ⟨⟨?_, ?_, h.pcs.low, h.pcs.inj, h.pcs.notb⟩, ?_, ?_, World.there_setCells h.th _ _ _, by rw [setCells_size]; exact h.gdl, (hb fb (fun e => n3 e.symm)).trans h.built, h.kept.fresh (setCells_kept gd _ _ _) l1, h.vars.kept (setCells_kept gd _ _ _) (by omega), (hb rb (fun e => n4 e.symm)).trans h.res⟩
  · exact (hb g (fun e => n1 e.symm)).trans h.pcs.own
  · intro j hj; exact (hb (bf j) (N.bfn j hj)).trans (h.pcs.row j hj)
  · exact (hb mb (fun e => n2 e.symm)).trans h.man
  · intro j hj
    by_cases e : j = i
    · subst e
      exact World.rangeAt_setCells_same _ _ _ _ (there_sub h.th _ _ (by rw [hd]; omega))
    · exact World.rangeAt_setCells_apart (h.rng j (by omega)) _ _ _ (.inr (.inl (by
        have : (u8s (pdg KC SH l k L j)).length = 32 := by simp [u8s, pdg, dig_length]
        omega)))

set_option maxRecDepth 100000 in
set_option maxHeartbeats 2000000 in
theorem Make_any (fb k n t m c : Nat) (a : Option Addr) (KC SH l : List Nat) (w : World) (hF : Fld w fb) (V : Vars w KC SH) (hd : Bs w (.slice a m c) l) (hoff : Off fb (.slice a m c)) (hmc : m ≤ c) (h1 : 1 ≤ k) (h2 : k ≤ n) (h3 : n ≤ t) (h4 : t ≤ 255) (h5 : m ≤ 8192) (hfb : 3 ≤ fb) :
    Calls Tryz.prog 58 #[.pointer (some ⟨fb, 0, none⟩), .int .i64 k, .int .i64 n, .int .i64 t, .slice a m c] w fun e w' => ∃ rb mb g gd bf, MkN fb rb mb g gd t bf w ∧ e = .returned (.tuple #[.agg (mcells k n t m (dig KC SH l) (.slice (some ⟨gd, 0, none⟩) t t)).toArray, .slice (some ⟨g, 0, none⟩) t t, .int .i64 0]) ∧ MkR fb mb g gd k t m (plen k m) KC SH l bf w w' := by
  have HL := hid hd
  have HO := hid hoff
  have hvc : vcB k n t = true := by unfold vcB; exact decide_eq_true ⟨by omega, by omega, by omega, by omega⟩
  have HVC := hid hvc
  have hnot : ∀ (x : Bool) (w : World), (Op.unary .not (.bool x)).run Tryz.prog w = .ok (.bool (!x)) w := fun _ _ => rfl
  have hfl := hF.lt
  have hvlt := V.lt
  obtain ⟨w1, hw1⟩ : ∃ w1, w1 = w.alloc (.cells (mcells 0 0 0 0 (List.replicate 32 0) (.slice none 0 0)).toArray 62) := ⟨_, rfl⟩
  have hb1 : Below w.heap.size w w1 := by rw [hw1]; exact (Below.refl _ _).alloc (Nat.le_refl _) _
  have hs1 : w1.heap.size = w.heap.size + 1 := by rw [hw1]; simp
  have HR1 := hid (show w1.heap[w.heap.size]? = some (.cells (mcells 0 0 0 0 (List.replicate 32 0) (.slice none 0 0)).toArray 62 (0, 0)) from by rw [hw1]; exact heap_new _ _)
  have HF1 := hid (show Fld w1 fb from by rw [hw1]; exact hF.alloc _)
  have HL1 := hid (hd.below hb1)
  have HV1 := hid (V.below hb1)
  have HB1 := hid hb1
  have HENC := hid (Encode_any fb k t a m c l w1 HF1.out HL1.out hoff hmc h1 (by omega) h4 h5)
  clear V hd hF hoff hvc hb1
  go_enter Tryz.func58, Tryz.ntmps58
  go_wp2_with fail
  refine (validCounts_any k n t _).mono ?_
  rw [HVC.out]
  rintro e w' ⟨rfl, rfl⟩
  go_wp2_with fail
  change Calls _ _ _ (w.alloc (.cells (mcells 0 0 0 0 (List.replicate 32 0) (.slice none 0 0)).toArray 62)) _
  rw [← hw1]
  clear hw1
  refine HENC.out.mono ?_
  clear HENC
  rintro e w2 ⟨g, bf, hg, rfl, hP, hB, hK⟩
  have hle : w.heap.size ≤ w1.heap.size := by omega
  have HP2 := hid (show Pcs w2 g w.heap.size t (plen k m) bf (encP l k (plen k m)) from ⟨hP.own, hP.row, fun j hj => Nat.le_trans hle (hP.low j hj), hP.inj, hP.notb⟩)
  have HBF := hid (show ∀ j, j < t → bf j < w2.heap.size ∧ w.heap.size < bf j from fun j hj => ⟨(hP.row j hj).lt, by have := hP.low j hj; omega⟩)
  have hgr : w.heap.size < g := by omega
  have HGL := hP.own.lt
  have HBU := hid hB
  have HK2 := hid ((Kept.of_below HB1.out).trans hK)
  have HV2 := hid (HV1.out.kept hK hfb)
  have HL2 := hid (HL1.out.kept hK HO.out)
  have HR2 := hid ((hK.block w.heap.size (by omega) (by omega)).trans HR1.out)
  have hs2 := hK.size
  have hg2 : w.heap.size ≤ g := by omega
  clear hP hB hK HV1 HL1 HR1 HF1 HB1 hg
  have HSHA := hid (fun (wx : World) (b : Below w2.heap.size w2 wx) => SHA256_any a m c KC SH l wx (HV2.out.below b) (HL2.out.below b) hmc (by omega))
  have HDL := hid (dig_length KC SH l)
  generalize hD : dig KC SH l = D at *
  have HD := hid (fun (_ : Unit) => hD)
  clear hD
  go_upto_region 8 with fail
  refine mk_region _ _ _ (fun s _ _ _ _ h => by cases s <;> exact h) k n t m c a D HDL.out (by omega) rfl rfl rfl rfl rfl HSHA.out (fun v45 v47 v48 pv w8 hC => ?_)
  obtain ⟨mb, gd, rfl, hman, hth, hb8, hmg, hgg, hne, hgl⟩ := hC
  have HN := hid (show MkN fb w.heap.size mb g gd t bf w from ⟨⟨by omega, hne, by omega, by omega, by omega⟩, ⟨by omega, by omega, hg2, Nat.le_refl _, by omega, hfl⟩, fun j hj => by have := HBF.out j hj; omega, by omega, fun j hj => by have := HBF.out j hj; omega⟩)
  have HI := hid (show MkI fb w.heap.size mb g gd k n t m (plen k m) KC SH l bf w w8 0 from ⟨HP2.out.below hb8, by rw [HD.out ()]; exact hman, fun j hj => absurd hj (Nat.not_lt_zero _), hth, hgl, HBU.out.below hb8 HBU.out.lt, HK2.out.trans (Kept.of_below hb8), HV2.out.below hb8, (hb8.block _ (by omega)).trans HR2.out⟩)
  have hmb : mb < w8.heap.size := lt_of_heap hman
  clear hman hth hb8 HBU HK2 HV2 HL2 HR2 HP2 HSHA
  go_wp2
  go_loopw [51] (fun iv wr => ∃ i : Nat, i ≤ t ∧ iv = .int .i64 i ∧ Hid (MkI fb w.heap.size mb g gd k n t m (plen k m) KC SH l bf w wr i)) (fun iv _ => t - (intOf iv).toNat)
  case atStart => exact ⟨0, by omega, rfl, HI⟩
  case round =>
    clear HI
    obtain ⟨i, hi, rfl, HI⟩ := hrel
    by_cases hit : i < t
    · have hI : (i : Int) < (t : Int) := by omega
      have hps := HI.out.pcs.own
      have hlp : i < (mkps bf (plen k m) t t).length := by rw [mkps_length]; exact hit
      have c0 := hps.cell0 i hlp
      have c1 := hps.cell1 i hlp
      rw [mkps_get _ _ _ _ _ hlp hit] at c0 c1
      have d36 : wr.cell? ⟨mb, 36, none⟩ = some (.slice (some ⟨gd, 0, none⟩) t t) := (HI.out.man.c (dig_length _ _ _)).2.2.2.2
      clear hps hlp
      have hil : i < 65536 := by omega
      have HBS := hid (show Bs wr (.slice (some ⟨bf i, 0, none⟩) (plen k m) (plen k m)) (encP l k (plen k m) i) ∧ plen k m ≤ 800000000 from by
        have h7 := (HI.out.pcs.row i hit).bs (encM_lt l HL.out.lt k (plen k m) i) (plen k m)
        rw [encM_length] at h7
        exact ⟨h7, by have := plen_le k m h1; omega⟩)
      generalize hL : plen k m = L at *
      have HLL := hid (fun (_ : Unit) => hL)
      clear hL
      generalize hbi : bf i = bi at *
      have HBI := hid (fun (_ : Unit) => hbi)
      clear hbi
      obtain ⟨wq, hwq⟩ : ∃ x, x = wr.alloc (.cells #[.int .i64 (i : Int), .slice (some ⟨bi, 0, none⟩) L L] 68) := ⟨_, rfl⟩
      have hbq : Below wr.heap.size wr wq := by rw [hwq]; exact (Below.refl _ _).alloc (Nat.le_refl _) _
      have HIQ := hid (HI.out.below hbq)
      have q0 : wq.cell? ⟨wr.heap.size, 0, none⟩ = some (.int .i64 (i : Int)) := by rw [hwq, cell_of_heap (heap_new _ _)]; rfl
      have q1 : wq.cell? ⟨wr.heap.size, 1, none⟩ = some (.slice (some ⟨bi, 0, none⟩) L L) := by rw [hwq, cell_of_heap (heap_new _ _)]; rfl
      have q36 : wq.cell? ⟨mb, 36, none⟩ = some (.slice (some ⟨gd, 0, none⟩) t t) := (HIQ.out.man.c (dig_length _ _ _)).2.2.2.2
      have K0 := hid (show wq.drew.cell? ⟨mb, 36, none⟩ = some (.slice (some ⟨gd, 0, none⟩) t t) ∧ wq.drew.cell? ⟨wr.heap.size, 0, none⟩ = some (.int .i64 (i : Int)) ∧ wq.drew.cell? ⟨wr.heap.size, 1, none⟩ = some (.slice (some ⟨bi, 0, none⟩) L L) from ⟨q36, q0, q1⟩)
      have hsz : wr.heap.size < wq.heap.size := by rw [hwq]; simp
      have HPD := hid (fun (wx : World) (b : Below wq.heap.size wq wx) => PieceDigest_any i hil (some ⟨bi, 0, none⟩) L L KC SH (encP l k L i) wx (HIQ.out.vars.below b) ((HBS.out.1.below hbq).below b) (Nat.le_refl _) HBS.out.2)
      have HKE := hid (fun (wx : World) (b : Below wq.heap.size wq wx) => (show wx.cell? ⟨mb, 36, none⟩ = some (.slice (some ⟨gd, 0, none⟩) t t) ∧ wx.cell? ⟨wr.heap.size, 0, none⟩ = some (.int .i64 (i : Int)) ∧ wx.cell? ⟨wr.heap.size, 1, none⟩ = some (.slice (some ⟨bi, 0, none⟩) L L) from ⟨(b.cell (p := ⟨mb, 36, none⟩) (lt_of_heap HIQ.out.man)).trans q36, (b.cell (p := ⟨wr.heap.size, 0, none⟩) hsz).trans q0, (b.cell (p := ⟨wr.heap.size, 1, none⟩) hsz).trans q1⟩))
      have hgr : wr.heap.size ≠ gd := fun e => by have := HI.out.gdl; omega
      have hgm : mb ≠ gd := fun e => HN.out.ne.2.1 e.symm
      have HKS := hid (fun (wx : World) (b : Below wq.heap.size wq wx) (cs : List Value) => (show (wx.setCells gd (i * 32) cs).cell? ⟨mb, 36, none⟩ = some (.slice (some ⟨gd, 0, none⟩) t t) ∧ (wx.setCells gd (i * 32) cs).cell? ⟨wr.heap.size, 0, none⟩ = some (.int .i64 (i : Int)) ∧ (wx.setCells gd (i * 32) cs).cell? ⟨wr.heap.size, 1, none⟩ = some (.slice (some ⟨bi, 0, none⟩) L L) from
        ⟨(World.cell?_of_block (a := ⟨mb, 36, none⟩) (setCells_heap gd cs _ wx mb hgm)).trans (HKE.out wx b).1, (World.cell?_of_block (a := ⟨wr.heap.size, 0, none⟩) (setCells_heap gd cs _ wx wr.heap.size hgr)).trans (HKE.out wx b).2.1, (World.cell?_of_block (a := ⟨wr.heap.size, 1, none⟩) (setCells_heap gd cs _ wx wr.heap.size hgr)).trans (HKE.out wx b).2.2⟩))
      clear d36 q36 q0 q1
      have hE32 := dig_length KC SH ([i / 256, i % 256] ++ encP l k L i)
      have HEQ := hid (fun (_ : Unit) => (show dig KC SH ([i / 256, i % 256] ++ encP l k L i) = pdg KC SH l k L i from rfl))
      generalize dig KC SH ([i / 256, i % 256] ++ encP l k L i) = E at *
      have e1 : ∀ v, v ∈ u8s E → v.oneCell' = true := u8s_oneH E
      have hE32' : (u8s E).length = 32 := by simp [u8s, hE32]
      have e3 : Option.map (fun x => x.size) (Tryz.prog.info? 23) = some (u8s E).length := by rw [hE32']; kernel_rfl
      have HTH := hid (fun (wx : World) (b : Below wq.heap.size wq wx) => (show wx.there gd (i * 32) (u8s E).length from there_sub (there_same HIQ.out.th (b.block _ HIQ.out.gdl)) _ _ (by rw [hE32']; omega)))
      have HE32 := hid hE32'
      clear hE32 hE32'
      go_wp2
      change Code.wp _ _ _ _ (wr.alloc (.cells #[.int .i64 (i : Int), .slice (some ⟨bi, 0, none⟩) L L] 68))
      rw [← hwq]
      clear hwq c0 c1
      go_region_held3 (fun w' => w'.cell? ⟨mb, 36, none⟩ = some (.slice (some ⟨gd, 0, none⟩) t t) ∧ w'.cell? ⟨wr.heap.size, 0, none⟩ = some (.int .i64 (i : Int)) ∧ w'.cell? ⟨wr.heap.size, 1, none⟩ = some (.slice (some ⟨bi, 0, none⟩) L L))
        (first | exact K0.out | exact K1.out | exact K2.out _)
        (first | (go_at_call 86
                  refine (HPD.out _ (bel_drewN (Below.refl _ _) 1)).mono ?_
                  rintro e w5 ⟨rfl, hb5⟩
                  have hb6 : Below wq.heap.size wq w5 := ⟨hb5.os, hb5.tape, hb5.output, hb5.size, hb5.block⟩
                  have K1 := hid (HKE.out w5 hb6)
                  have K2 := hid (HKS.out w5 hb6)
                  have e2 := HTH.out w5 hb6))
      have hst := (HIQ.out.below hb6).store HN.out hit (by rw [← HEQ.out ()]; exact HE32.out)
      rw [← HEQ.out ()] at hst
      have HST := hid hst
      clear hst e1 e2 e3 hb5
      go_wp2
      exact ⟨⟨i + 1, by omega, by go_num, HST⟩, by simp [intOf]; omega⟩
    · obtain rfl : i = t := by omega
      have HRA := hid (show wr.rangeAt mb 0 (mcells k n i m (dig KC SH l) (.slice (some ⟨gd, 0, none⟩) i i)) from fun j v hj => by
        rw [Nat.zero_add, cell_of_heap HI.out.man, List.getElem?_toArray]
        exact hj)
      have hd32 := dig_length KC SH l
      have HML := hid (mcells_length k n i m (dig KC SH l) (.slice (some ⟨gd, 0, none⟩) i i) hd32)
      have HON := hid (mcells_one k n i m (dig KC SH l) (some ⟨gd, 0, none⟩) i i)
      have HX := hid (fun (w' : World) (b : Kept w.heap.size wr w') => HI.out.last HN.out b rfl)
      generalize hM : mcells k n i m (dig KC SH l) (.slice (some ⟨gd, 0, none⟩) i i) = M at *
      have HIF := hid (show (Tryz.prog.info? 62).map (·.size) = some M.length from by rw [HML.out]; kernel_rfl)
      have HIF2 := hid (show (Tryz.prog.info? 62).map (·.size) = some M.toArray.size from by rw [List.size_toArray, HML.out]; kernel_rfl)
      have HSZ := hid (show (mcells 0 0 0 0 (List.replicate 32 0) (.slice none 0 0)).toArray.size = M.toArray.size from by rw [show M.toArray.size = 37 from by rw [List.size_toArray, HML.out]]; rfl)
      have HMM := hid (fun (_ : Unit) => hM)
      have hI : ¬ ((i : Int) < (i : Int)) := by omega
      clear hM hd32
      go_wp2_with (first
        | (refine wpList_load_mid (by rfl) 62 (.tmp 15) (by rfl) mb 0 (by rfl) M _ HRA.out Tryz.underlying62 rfl HIF.out ?_)
        | (refine wpList_store_row (by rfl) 62 (.tmp 10) (.tmp 66) (by rfl) w.heap.size _ M.toArray _ (by rfl) (by rfl) HI.out.res HIF2.out HSZ.out HON.out ?_
           intro w9 hw9 hk9))
      have hres : (loadVar 62 ⟨w.heap.size, 0, none⟩).run Tryz.prog w9 = .ok (.agg M.toArray) w9 := run_loadVar_row _ _ 62 62 _ (0, 0) _ hw9 Tryz.underlying62 rfl HIF2.out
      refine bodyPost_ret (v := .tuple #[.agg M.toArray, .slice (some ⟨g, 0, none⟩) i i, .int .i64 0]) (results_at3 Tryz.results58 rfl hres rfl rfl) rfl ?_
      refine ⟨w.heap.size, mb, g, gd, bf, HN.out, ?_, ?_⟩
      · rw [← HMM.out ()]
      · exact HX.out w9 hk9
end Go.Proofs.YtjgiiciniplbnaaGreatDoor

namespace Go.Proofs.YtjgiiciniplbnaaGreatDoor
open Go.RowKit

theorem zero98 : Tryz.zeroCells156 = fcells 0 0 (tabTo 0) := by kernel_rfl
/-- NewField -/
theorem newField_any (w : World) :
    Calls Tryz.prog 41 #[] w fun e w' => e = .returned (.pointer (some ⟨w.heap.size, 0, none⟩)) ∧ Fresh w' w.heap.size ∧ Below w.heap.size w w' := by
  go_enter Tryz.func41, Tryz.ntmps41
  go_wp2
  go_ret
  exact ⟨rfl, by rw [zero98]; exact heap_new _ _, (Below.refl _ _).alloc (Nat.le_refl _) _⟩
end Go.Proofs.YtjgiiciniplbnaaGreatDoor
