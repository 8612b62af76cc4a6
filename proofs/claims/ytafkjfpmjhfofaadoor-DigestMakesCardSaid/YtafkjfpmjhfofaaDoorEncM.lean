/-
  EncodeManifest.
-/
import Derived.Test.YtafkjfpmjhfofaaDoorMan
import Derived.Test.YtafkjfpmjhfofaaDoorWrb
namespace Go.Proofs.YtafkjfpmjhfofaaDoor
open Go Go.RowKit
set_option linter.unusedVariables false

/-- a Writer that began in world w0 and has not failed -/
def EncI (w0 wx : World) (lim : Nat) (l : List Nat) : Prop := ∃ v, WrAt wx w0.heap.size lim v l false ∧ Below w0.heap.size w0 wx
theorem EncI.step {w0 wx w' : World} {lim : Nat} {v : Value} {l bs : List Nat} (W : WrAt wx w0.heap.size lim v l false) (hb : Below w0.heap.size w0 wx) (h : Added w0.heap.size lim v l false bs wx w') (hf : l.length + bs.length ≤ lim) : EncI w0 w' lim (l ++ bs) := by
  obtain ⟨v', h1, h2, h3⟩ := h
  have e : wadd lim l false bs = (l ++ bs, false) := by unfold wadd; rw [if_neg (by simp; omega)]
  rw [e] at h1
  refine ⟨v', h1, hb.trans (h2.below hb.size (Nat.le_refl _) (fun k hk => ?_))⟩
  have := (W.own.lt k hk).1
  omega
/-- digests in memory, one behind the other -/
def DgAt (w : World) (v : Value) (D : List (List Nat)) : Prop := ∃ a c, v = .slice a D.length c ∧ (∀ d ∈ D, d.length = 32 ∧ ∀ x ∈ d, x < 256) ∧ (D ≠ [] → ∃ b o, a = some ⟨b, o, none⟩ ∧ ∀ j, j < D.length → w.rangeAt b (o + j * 32) (u8s (D.getD j [])))
theorem ManAt.od {w : World} {b : Nat} {k n t s : Int} {od : List Nat} {v : Value} (M : ManAt w b k n t s od v) (h : od.length = 32) (hl : ∀ x ∈ od, x < 256) : Bs w (.slice (some ⟨b, 4, none⟩) 32 32) od := by
  refine ⟨some ⟨b, 4, none⟩, 32, by rw [h], hl, fun _ => ⟨b, 4, rfl, fun i hi => ?_⟩⟩
  rw [cell_of_heap M, List.getElem?_toArray]
  unfold mcells
  rw [List.append_assoc, List.getElem?_append_right (by simp), List.getElem?_append_left (by simp [u8s]; omega)]
  simp [u8s, hi]
theorem WrAt.below {w w' : World} {wb lim : Nat} {v : Value} {l : List Nat} {f : Bool} (W : WrAt w wb lim v l f) (k : Below w.heap.size w w') : WrAt w' wb lim v l f :=
  ⟨(k.block _ W.lt_size).trans W.at_, W.own.kept (row := none) ⟨k.os, k.tape, k.output, k.size, fun i hi _ => k.block i hi⟩ (by cases v.ownBlock <;> simp), W.lt, W.fit, W.cap⟩
theorem beL_one (x : Nat) (h : x < 256) : beL x 1 = [x] := by
  simp [beL, beB, List.range_succ, Nat.mod_eq_of_lt h]
theorem beL_two (x : Nat) (h : x < 65536) : beL x 2 = [x / 256, x % 256] := by
  have h2 : x / 256 % 256 = x / 256 := Nat.mod_eq_of_lt (by omega)
  simp [beL, beB, List.range_succ, h2]
theorem range_below {w w' : World} {b o : Nat} {cs : List Value} (h : w.rangeAt b o cs) (k : Below w.heap.size w w') : w'.rangeAt b o cs := fun j v hj => by
  have h1 := h j v hj
  rw [k.cell (World.block_lt_of_cell? _ _ h1)]
  exact h1
def encHead (k n t s : Nat) (od : List Nat) : List Nat := [77, 1, k, n, t, s / 256, s % 256] ++ od
def encTo (k n t s : Nat) (od : List Nat) (D : List (List Nat)) (i : Nat) : List Nat := encHead k n t s od ++ (D.take i).flatten

set_option maxRecDepth 100000 in
set_option maxHeartbeats 4000000 in
theorem EncodeM_any (k n t s : Nat) (od : List Nat) (D : List (List Nat)) (v : Value) (h : od.length = 32) (hol : ∀ x ∈ od, x < 256) (w : World) (hD : DgAt w v D) (hok : manB k n t s D.length = true) :
    Calls Tryd.prog 31 #[.agg (mcells k n t s od v).toArray] w fun e w' => ∃ u, e = .returned (.tuple #[u, .int .i64 0]) ∧ ∃ wx, Copied wx (7 + 32 * (1 + t)) (encTo k n t s od D t) u w' ∧ Below w.heap.size w wx := by
  obtain ⟨a, c, rfl, hDl, hDc⟩ := hD
  have hM : ManAt (w.alloc (.cells (mcells k n t s od (.slice a D.length c)).toArray 27)) w.heap.size k n t s od (.slice a D.length c) := heap_new _ _
  have HM := hid hM
  have HB := hid ((Below.refl w.heap.size w).alloc (Nat.le_refl _) (.cells (mcells k n t s od (.slice a D.length c)).toArray 27))
  have HIF := hid (show (Tryd.prog.info? 27).map (·.size) = some (mcells k n t s od (.slice a D.length c)).length from by rw [mcells_length _ _ _ _ _ _ h]; kernel_rfl)
  have HC := hid (fun w => CheckManifest_any k n t s od a D.length c h w)
  have hme : manE k n t s D.length = 0 := by unfold manE; rw [if_pos hok]
  rw [hme] at HC
  have hnum : 1 ≤ k ∧ k ≤ n ∧ n ≤ t ∧ t ≤ 255 ∧ s ≤ 8192 ∧ D.length = t := by
    unfold manB vnB vcB at hok
    simp only [Bool.and_eq_true, decide_eq_true_eq] at hok
    omega
  obtain ⟨w1, hw1⟩ : ∃ w1, w1 = w.alloc (.cells (mcells k n t s od (.slice a D.length c)).toArray 27) := ⟨_, rfl⟩
  rw [← hw1] at HB HM
  have hs1 : w.heap.size < w1.heap.size := by rw [hw1]; simp
  have HRA := hid (show w1.rangeAt w.heap.size 0 (mcells k n t s od (.slice a D.length c)) from fun j v hj => by
    rw [Nat.zero_add, cell_of_heap HM.out, List.getElem?_toArray]
    exact hj)
  have HH := hid h
  have HOL := hid hol
  have HDL := hid hDl
  have HDC := hid hDc
  have HN := hid hnum
  clear hM h hol hDl hDc hok hme hnum
  go_enter Tryd.func31, Tryd.ntmps31
  go_upto_region 1 with fail
  change Code.wp _ _ _ _ (w.alloc (.cells (mcells k n t s od (.slice a D.length c)).toArray 27))
  rw [← hw1]
  clear hw1
  go_wp2_with (refine wpList_load_mid (by rfl) 27 (.tmp 1) (by rfl) w.heap.size 0 (by rfl) (mcells k n t s od (.slice a D.length c)) _ HRA.out Tryd.underlying27 rfl HIF.out ?_)
  refine (HC.out w1).mono ?_
  rintro e w2 ⟨rfl, hb2⟩
  have HM2 := hid (show ManAt w2 w.heap.size k n t s od (.slice a D.length c) from (hb2.block _ hs1).trans HM.out)
  have HB2 := hid (HB.out.trans (hb2.mono (by omega)))
  obtain ⟨c0, c1, c2, c3, c36⟩ := HM2.out.c HH.out
  have hs2 : w.heap.size < w2.heap.size := Nat.lt_of_lt_of_le hs1 hb2.size
  clear hb2 HM HB HIF HC HRA
  go_wp2_with fail
  refine (manifestSize_any t (by have := HN.out; omega) w2).mono ?_
  rintro e w3 ⟨rfl, rfl⟩
  go_wp2_with fail
  refine (NewWriter_any (7 + 32 * (1 + t)) (by have := HN.out; omega) w2).mono ?_
  rintro e w3 ⟨rfl, hW3, hb3⟩
  have HCE := hid (show ∀ wx, Below w2.heap.size w2 wx → wx.cell? ⟨w.heap.size, 0, none⟩ = some (.int .i64 (k : Int)) ∧ wx.cell? ⟨w.heap.size, 1, none⟩ = some (.int .i64 (n : Int)) ∧ wx.cell? ⟨w.heap.size, 2, none⟩ = some (.int .i64 (t : Int)) ∧ wx.cell? ⟨w.heap.size, 3, none⟩ = some (.int .i64 (s : Int)) ∧ wx.cell? ⟨w.heap.size, 36, none⟩ = some (.slice a D.length c) from fun wx hb => ManAt.c ((hb.block _ hs2).trans HM2.out) HH.out)
  obtain ⟨hk1, hkn, hnt, ht, hs8, hDt⟩ := HN.out
  clear c0 c1 c2 c3 c36
  have I1 := hid (show EncI w2 w3 (7 + 32 * (1 + t)) [] from ⟨_, hW3, hb3⟩)
  clear hW3 hb3
  obtain ⟨lim, hlim⟩ : ∃ lim, lim = 7 + 32 * (1 + t) := ⟨_, rfl⟩
  rw [← hlim] at I1
  have hl40 : 39 + 32 * t ≤ lim := by omega
  have HLIM := hid hlim
  clear hlim
  have q1 : IntKind.u8.wrap (k : Int) = (k : Int) := by rw [IntKind.wrap_u8]; omega
  have q2 : IntKind.u8.wrap (n : Int) = (n : Int) := by rw [IntKind.wrap_u8]; omega
  have q3 : IntKind.u8.wrap (t : Int) = (t : Int) := by rw [IntKind.wrap_u8]; omega
  have q4 : IntKind.u16.wrap (s : Int) = (s : Int) := by rw [IntKind.wrap_u16]; omega
  obtain ⟨v1, V1, B1⟩ := I1.out
  go_wp2_with fail
  refine (U8_any w2.heap.size lim 77 v1 [] false w3 V1 (by decide)).mono ?_
  rintro e w4 ⟨rfl, hA⟩
  have hI := EncI.step V1 B1 hA (by simp [beL_length]; omega)
  have I2 := hid hI
  clear hA hI V1 B1
  obtain ⟨v2, V2, B2⟩ := I2.out
  go_wp2_with fail
  refine (U8_any w2.heap.size lim 1 v2 _ false w4 V2 (by decide)).mono ?_
  rintro e w5 ⟨rfl, hA⟩
  have hI := EncI.step V2 B2 hA (by simp [beL_length]; omega)
  have I3 := hid hI
  clear hA hI V2 B2
  obtain ⟨v3, V3, B3⟩ := I3.out
  have d0 := (HCE.out w5 B3).1
  go_wp2_with fail
  refine (U8_any w2.heap.size lim k v3 _ false w5 V3 (by show k < 256; omega)).mono ?_
  rintro e w6 ⟨rfl, hA⟩
  have hI := EncI.step V3 B3 hA (by simp [beL_length]; omega)
  have I4 := hid hI
  clear hA hI V3 B3
  obtain ⟨v4, V4, B4⟩ := I4.out
  have d1 := (HCE.out w6 B4).2.1
  go_wp2_with fail
  refine (U8_any w2.heap.size lim n v4 _ false w6 V4 (by show n < 256; omega)).mono ?_
  rintro e w7 ⟨rfl, hA⟩
  have hI := EncI.step V4 B4 hA (by simp [beL_length]; omega)
  have I5 := hid hI
  clear hA hI V4 B4
  obtain ⟨v5, V5, B5⟩ := I5.out
  have d2 := (HCE.out w7 B5).2.2.1
  go_wp2_with fail
  refine (U8_any w2.heap.size lim t v5 _ false w7 V5 (by show t < 256; omega)).mono ?_
  rintro e w8 ⟨rfl, hA⟩
  have hI := EncI.step V5 B5 hA (by simp [beL_length]; omega)
  have I6 := hid hI
  clear hA hI V5 B5
  obtain ⟨v6, V6, B6⟩ := I6.out
  have d3 := (HCE.out w8 B6).2.2.2.1
  go_wp2_with fail
  refine (U16_any w2.heap.size lim s v6 _ false w8 V6 (by show s < 65536; omega)).mono ?_
  rintro e w9 ⟨rfl, hA⟩
  have hI := EncI.step V6 B6 hA (by simp [beL_length]; omega)
  have I7 := hid hI
  clear hA hI V6 B6
  clear d0 d1 d2 d3
  obtain ⟨v7, V7, B7⟩ := I7.out
  go_wp2_with fail
  have M9 : ManAt w9 w.heap.size k n t s od (.slice a D.length c) := (B7.block _ hs2).trans HM2.out
  have hne : w.heap.size ≠ w2.heap.size := by omega
  refine (Raw_any w2.heap.size lim 32 32 (some ⟨w.heap.size, 4, none⟩) v7 _ od false w9 V7 (M9.od HH.out HOL.out) (fun h => by cases h) (by omega) (fun ad h _ => by
    cases h
    exact ⟨hne, fun e => by
      have h9 : w2.heap.size + 1 ≤ w.heap.size := (V7.own.lt _ e).1
      omega⟩)).mono ?_
  rintro e w10 ⟨rfl, hA⟩
  have hI := EncI.step V7 B7 hA (by
    have ho := HH.out
    simp only [List.length_append, List.length_nil, beL_length]
    omega)
  obtain ⟨L, hL⟩ : ∃ L, L = [] ++ beL 77 1 ++ beL 1 1 ++ beL k 1 ++ beL n 1 ++ beL t 1 ++ beL s 2 ++ od := ⟨_, rfl⟩
  rw [← hL] at hI
  have hLl : L.length = 39 := by rw [hL]; simp [beL_length, HH.out]
  have HL := hid hL
  have I8 := hid hI
  clear hA hI V7 B7 I7 M9 hL
  obtain ⟨v8, V8, B8⟩ := I8.out
  have d36 := (HCE.out w10 B8).2.2.2.2
  rw [hDt] at d36
  clear V8 B8
  have hwb : w2.heap.size ≤ w10.heap.size := by obtain ⟨_, _, B⟩ := I8.out; exact B.size
  go_wp2
  go_loopw [48] (fun iv wr => ∃ i : Nat, i ≤ t ∧ iv = .int .i64 i ∧ Hid (EncI w2 wr lim (L ++ (D.take i).flatten)) ∧ Hid ((D.take i).flatten.length = 32 * i)) (fun iv _ => t - (intOf iv).toNat)
  case atStart => exact ⟨0, by omega, rfl, hid (by simpa using I8.out), hid (by simp)⟩
  case round =>
    clear I8
    obtain ⟨i, hi, rfl, I9, HFL⟩ := hrel
    by_cases hit : i < t
    · have hI : (i : Int) < (t : Int) := by omega
      have hDne : D ≠ [] := by intro h0; rw [h0] at hDt; simp at hDt; omega
      obtain ⟨b, o, rfl, hrg⟩ := HDC.out hDne
      have hr := hrg i (by omega)
      obtain ⟨d, hd⟩ : ∃ d, d = D.getD i [] := ⟨_, rfl⟩
      have hdm : d ∈ D := by rw [hd, List.getD_eq_getElem?_getD, List.getElem?_eq_getElem (by omega)]; exact List.getElem_mem _
      obtain ⟨hd32, hdl⟩ := HDL.out d hdm
      obtain ⟨v9, V9, B9⟩ := I9.out
      rw [← hd] at hr
      have HR := hid (range_below hr (HB2.out.trans (B9.mono (by omega))))
      have HIFD := hid (show (Tryd.prog.info? 24).map (·.size) = some (u8s d).length from by rw [show (u8s d).length = 32 from by simp [u8s, hd32]]; kernel_rfl)
      have HIFA := hid (show (Tryd.prog.info? 24).map (·.size) = some (u8s d).toArray.size from by rw [List.size_toArray, show (u8s d).length = 32 from by simp [u8s, hd32]]; kernel_rfl)
      have HOLD := hid (show (u8s (List.replicate 32 0)).toArray.size = (u8s d).toArray.size from by rw [List.size_toArray, List.size_toArray]; simp [u8s, hd32])
      have HONE := hid (show (u8s d).toArray.all (·.oneCell') = true from all_oneCell_toArray (fun u hu => by
        unfold u8s at hu
        obtain ⟨y, _, rfl⟩ := List.mem_map.1 hu
        rfl))
      have HNW := hid (show (wr.alloc (.cells (u8s (List.replicate 32 0)).toArray 24)).heap[wr.heap.size]? = _ from heap_new _ _)
      have HBA := hid (B9.alloc B9.size (.cells (u8s (List.replicate 32 0)).toArray 24))
      have HST := hid (show (D.take i).flatten ++ d = (D.take (i + 1)).flatten from by
        rw [hd, List.take_add_one, List.getD_eq_getElem?_getD, List.getElem?_eq_getElem (by omega)]
        simp only [List.flatten_append, Option.toList_some, List.flatten_cons, List.flatten_nil, List.append_nil, Option.getD_some])
      have HD32 := hid hd32
      have HDLT := hid hdl
      have HV9 := hid V9
      have HB9 := hid B9
      clear hr hrg hd hdm hd32 hdl V9 B9 I9 hDne
      go_wp2_with (first
        | (refine wpList_load_mid (by rfl) 24 (.tmp 50) (by rfl) b (o + i * 32) (by rfl) (u8s d) _ HR.out Tryd.underlying24 rfl HIFD.out ?_)
        | (refine wpList_store_row (by rfl) 24 (.tmp 7) (.tmp 51) (by rfl) wr.heap.size _ (u8s d).toArray _ (by rfl) (by rfl) HNW.out HIFA.out HOLD.out HONE.out ?_
           intro w8 hw8 hk8))
      have hb8 : Below wr.heap.size wr w8 := ((Below.refl wr.heap.size wr).alloc (Nat.le_refl _) (.cells (u8s (List.replicate 32 0)).toArray 24)).trans (hk8.below (by simp) (Nat.le_refl _))
      have hbs8 : Bs w8 (.slice (some ⟨wr.heap.size, 0, none⟩) 32 32) d := ⟨some ⟨wr.heap.size, 0, none⟩, 32, by rw [HD32.out], HDLT.out, fun _ => ⟨_, 0, rfl, fun i hi => by
        rw [Nat.zero_add, cell_of_heap hw8]
        simp [u8s, hi]⟩⟩
      have V10 := HV9.out.below hb8
      have B10 := HB9.out.trans (hb8.mono HB9.out.size)
      have hlt9 := HV9.out.lt_size
      refine (Raw_any w2.heap.size lim 32 32 (some ⟨wr.heap.size, 0, none⟩) v9 _ d false w8 V10 hbs8 (fun h => by cases h) (by omega) (fun ad h _ => by
        cases h
        exact ⟨(by show wr.heap.size ≠ w2.heap.size; omega), fun e => by
          have h9 : wr.heap.size < wr.heap.size := (HV9.out.own.lt _ e).2
          omega⟩)).mono ?_
      rintro e w11 ⟨rfl, hA⟩
      have hI2 := EncI.step V10 B10 hA (by
        have h1 := HFL.out
        have h2 := HD32.out
        simp only [List.length_append]
        omega)
      rw [List.append_assoc, HST.out] at hI2
      have I10 := hid hI2
      have HFL2 := hid (show (D.take (i + 1)).flatten.length = 32 * (i + 1) from by
        have h1 := HFL.out
        have h2 := HD32.out
        rw [← HST.out, List.length_append]
        omega)
      clear hI2 hA V10 B10 hbs8 hb8 hw8 hk8 hlt9
      go_wp2
      exact ⟨⟨i + 1, by omega, by go_num, I10, HFL2⟩, by simp [intOf]; omega⟩
    · have hit2 : i = t := by omega
      obtain ⟨v9, V9, B9⟩ := I9.out
      have HEQ := hid (show L ++ (D.take i).flatten = encTo k n t s od D t from by
        rw [HL.out, hit2]
        unfold encTo encHead
        rw [beL_one 77 (by omega), beL_one 1 (by omega), beL_one k (by omega), beL_one n (by omega), beL_one t (by omega), beL_two s (by omega)]
        rfl)
      have HLEN := hid (show (L ++ (D.take i).flatten).length = 7 + 32 * (1 + t) from by
        have h1 := HFL.out
        rw [List.length_append]
        omega)
      have HBY := hid (Bytes_any w2.heap.size lim v9 _ false wr V9)
      have HBF := hid (HB2.out.trans (B9.mono (by omega)))
      clear V9 B9
      have hI : ¬ ((i : Int) < (t : Int)) := by omega
      go_wp2_with fail
      refine HBY.out.mono ?_
      rintro e w11 hres
      obtain ⟨u, rfl, hcp⟩ := hres.2 rfl
      rw [HLEN.out, HEQ.out] at hcp
      have HCP := hid hcp
      clear hcp hres
      go_wp2
      go_ret2
      exact ⟨u, rfl, wr, HCP.out, HBF.out⟩
end Go.Proofs.YtafkjfpmjhfofaaDoor
