/-
  known: the few calls that every statement of chapter 2 ends with.
-/
import Derived.Test.YtafkjfpmjhfofaaDoorVals
import Derived.Test.YtafkjfpmjhfofaaDoorMake
import Derived.Test.YtafkjfpmjhfofaaDoorNewF
import Derived.Test.YtafkjfpmjhfofaaDoorBsu
import Derived.Lib.SlBytesConst
namespace Go.Proofs.YtafkjfpmjhfofaaDoor
open Go Go.RowKit
set_option linter.unusedVariables false

theorem hex_abc : bstr (hexL [186, 120, 22, 191, 143, 1, 207, 234, 65, 65, 64, 222, 93, 174, 34, 35, 176, 3, 97, 163, 150, 23, 122, 156, 180, 16, 255, 97, 242, 0, 21, 173] 32) = (⟨#[98, 97, 55, 56, 49, 54, 98, 102, 56, 102, 48, 49, 99, 102, 101, 97, 52, 49, 52, 49, 52, 48, 100, 101, 53, 100, 97, 101, 50, 50, 50, 51, 98, 48, 48, 51, 54, 49, 97, 51, 57, 54, 49, 55, 55, 97, 57, 99, 98, 52, 49, 48, 102, 102, 54, 49, 102, 50, 48, 48, 49, 53, 97, 100]⟩ : ByteArray) := by kernel_rfl
theorem man_known (od : List Nat) (h : od.length = 32) (D : List (List Nat)) : (encTo 2 3 3 2 od D 3).take 7 = [77, 1, 2, 3, 3, 0, 2] := rfl
theorem bstr_seven : bstr [77, 1, 2, 3, 3, 0, 2] = (⟨#[77, 1, 2, 3, 3, 0, 2]⟩ : ByteArray) := by kernel_rfl
theorem bs_mark (w : World) (l : List Nat) (hl : ∀ n ∈ l, n < 256) (T : TypeId) (fr : Nat × Nat) (c : Nat) : Bs (w.alloc (.cells (u8s l).toArray T fr)) (.slice (some ⟨w.heap.size, 0, none⟩) l.length c) l :=
  ⟨_, c, rfl, hl, fun _ => ⟨w.heap.size, 0, rfl, fun i hi => by
    have h := heap_new w (.cells (u8s l).toArray T fr)
    rw [Nat.zero_add]
    unfold World.cell?
    rw [h]
    simp [u8s, hi]⟩⟩
theorem plen_2_2 : plen 2 2 = 1 := by kernel_rfl

theorem range_of_heap {w : World} {b : Nat} {cs : List Value} {T : TypeId} (h : w.heap[b]? = some (.cells cs.toArray T (0, 0))) : w.rangeAt b 0 cs := fun j v hj => by
  rw [Nat.zero_add, cell_of_heap h, List.getElem?_toArray]
  exact hj
theorem upto_run (a : Option Addr) (n c k : Nat) (h : k ≤ c) (w' : World) : (Instr.sliceAt 22 (.slice a n c) none (some (.int .i64 (k : Int))) none).run Tryd.prog w' = .ok (.slice a k c) w' := by
  have u1 : (k : Int) ≤ (c : Int) := by omega
  have u2 : (0 : Int) ≤ (k : Int) := by omega
  cases a <;> simp [go_sem, Tryd.underlying22, u1, u2]
theorem DgAt.same {w w' : World} {gd n c : Nat} {D : List (List Nat)} (h : DgAt w (.slice (some ⟨gd, 0, none⟩) n c) D) (k : w'.heap[gd]? = w.heap[gd]?) : DgAt w' (.slice (some ⟨gd, 0, none⟩) n c) D := by
  obtain ⟨a, c', h1, h2, h3⟩ := h
  refine ⟨a, c', h1, h2, fun hD => ?_⟩
  obtain ⟨b, o, h4, h5⟩ := h3 hD
  refine ⟨b, o, h4, fun j hj => range_same (h5 j hj) ?_⟩
  simp only [Value.slice.injEq] at h1
  rw [h4] at h1
  simp only [Option.some.injEq, Addr.mk.injEq] at h1
  rw [← h1.1.1]
  exact k
theorem digL_lt' (h : List Nat) : ∀ x ∈ digL h, x < 256 := fun x hx => by
  unfold digL at hx
  obtain ⟨p, _, rfl⟩ := List.mem_map.1 hx
  exact Nat.mod_lt _ (by decide)
theorem digL_lt {KC SH m : List Nat} (l : Unit) : ∀ x ∈ dig KC SH m, x < 256 := digL_lt' _
theorem dgAt_three {w : World} {gd : Nat} {KC SH l : List Nat} {k L : Nat} (h : ∀ j, j < 3 → w.rangeAt gd (j * 32) (u8s (pdg KC SH l k L j))) : DgAt w (.slice (some ⟨gd, 0, none⟩) 3 3) [pdg KC SH l k L 0, pdg KC SH l k L 1, pdg KC SH l k L 2] := by
  refine ⟨_, 3, rfl, fun d hd => ?_, fun _ => ⟨gd, 0, rfl, fun j hj => ?_⟩⟩
  · simp only [List.mem_cons, List.not_mem_nil, or_false] at hd
    rcases hd with rfl | rfl | rfl <;> exact ⟨dig_length _ _ _, digL_lt ()⟩
  · simp only [List.length_cons, List.length_nil] at hj
    rw [Nat.zero_add]
    rcases (show j = 0 ∨ j = 1 ∨ j = 2 from by omega) with rfl | rfl | rfl
    · exact h 0 (by omega)
    · exact h 1 (by omega)
    · exact h 2 (by omega)

set_option maxRecDepth 100000 in
set_option maxHeartbeats 2000000 in
theorem known_dg (w : World) (V : Vars w shaRound shaStart) :
    Calls Tryd.prog 12 #[] w fun e w' => e = .returned (.bool true) ∧ Below w.heap.size w w' := by
  have hvlt := V.lt
  -- the digest of abc
  obtain ⟨w1, hw1⟩ : ∃ x, x = w.alloc (.cells (u8s [97, 98, 99]).toArray 5 (3, 4)) := ⟨_, rfl⟩
  have hb1 : Below w.heap.size w w1 := by rw [hw1]; exact (Below.refl _ _).alloc (Nat.le_refl _) _
  have HBS1 := hid (show Bs w1 (.slice (some ⟨w.heap.size, 0, none⟩) 3 3) [97, 98, 99] from by rw [hw1]; exact bs_mark w [97, 98, 99] (by decide) _ _ 3)
  have HV1 := hid (V.below hb1)
  have HSHA := hid (SHA256_any (some ⟨w.heap.size, 0, none⟩) 3 3 shaRound shaStart [97, 98, 99] w1 HV1.out HBS1.out (Nat.le_refl _) (by decide))
  have hdl := dig_length shaRound shaStart [97, 98, 99]
  have hhex : bstr (hexL (dig shaRound shaStart [97, 98, 99]) 32) = (⟨#[98, 97, 55, 56, 49, 54, 98, 102, 56, 102, 48, 49, 99, 102, 101, 97, 52, 49, 52, 49, 52, 48, 100, 101, 53, 100, 97, 101, 50, 50, 50, 51, 98, 48, 48, 51, 54, 49, 97, 51, 57, 54, 49, 55, 55, 97, 57, 99, 98, 52, 49, 48, 102, 102, 54, 49, 102, 50, 48, 48, 49, 53, 97, 100]⟩ : ByteArray) := by rw [sha_abc]; exact hex_abc
  have hdlt : ∀ i, (dig shaRound shaStart [97, 98, 99]).getD i 0 < 256 := by
    rw [sha_abc]
    intro i
    rw [List.getD_eq_getElem?_getD]
    by_cases h : i < [186, 120, 22, 191, 143, 1, 207, 234, 65, 65, 64, 222, 93, 174, 34, 35, 176, 3, 97, 163, 150, 23, 122, 156, 180, 16, 255, 97, 242, 0, 21, 173].length
    · rw [List.getElem?_eq_getElem h]
      have : ∀ x ∈ [186, 120, 22, 191, 143, 1, 207, 234, 65, 65, 64, 222, 93, 174, 34, 35, 176, 3, 97, 163, 150, 23, 122, 156, 180, 16, 255, 97, 242, 0, 21, 173], x < 256 := by decide
      exact this _ (List.getElem_mem h)
    · rw [List.getElem?_eq_none (by omega)]; decide
  generalize dig shaRound shaStart [97, 98, 99] = D at *
  have HHEX := hid (fun w => Hex_any D hdl hdlt w)
  obtain ⟨X, hX⟩ : ∃ X, X = bstr (hexL D 32) := ⟨_, rfl⟩
  rw [← hX] at HHEX hhex
  have hne : (X.toList == ([98, 97, 55, 56, 49, 54, 98, 102, 56, 102, 48, 49, 99, 102, 101, 97, 52, 49, 52, 49, 52, 48, 100, 101, 53, 100, 97, 101, 50, 50, 50, 51, 98, 48, 48, 51, 54, 49, 97, 51, 57, 54, 49, 55, 55, 97, 57, 99, 98, 52, 49, 48, 102, 102, 54, 49, 102, 50, 48, 48, 49, 53, 97, 100] : List UInt8)) = true := by rw [hhex]; kernel_rfl
  have HB1 := hid hb1
  clear hhex hdlt hdl hX V hb1
  have kc := fun (w : World) (C : Array Value) (n c : Nat) => Lib.run_convert_bytes_const (P := Tryd.prog) w 22 5 C n c Tryd.underlying22 Tryd.underlying5
  go_enter Tryd.func12, Tryd.ntmps12
  go_wp2_with fail
  change Calls _ _ _ (w.alloc (.cells (u8s [97, 98, 99]).toArray 5 (3, 4))) _
  rw [← hw1]
  clear hw1
  refine HSHA.out.mono ?_
  clear HSHA
  rintro e w2 ⟨rfl, hb2⟩
  have HB2 := hid (HB1.out.trans (hb2.mono HB1.out.size))
  have HV2 := hid (HV1.out.below hb2)
  clear hb2
  go_wp2_with fail
  refine (HHEX.out w2).mono ?_
  clear HHEX
  rintro e w3 ⟨rfl, hb3⟩
  have HB3 := hid (HB2.out.trans (hb3.mono HB2.out.size))
  have HV3 := hid (HV2.out.below hb3)
  clear hb3
  obtain ⟨w4, hw4⟩ : ∃ x, x = w3.alloc (.cells (u8s [49, 50, 51, 52, 53, 54, 55, 56, 57]).toArray 5 (9, 10)) := ⟨_, rfl⟩
  have hb4 : Below w3.heap.size w3 w4 := by rw [hw4]; exact (Below.refl _ _).alloc (Nat.le_refl _) _
  have HBS4 := hid (show Bs w4 (.slice (some ⟨w3.heap.size, 0, none⟩) 9 9) [49, 50, 51, 52, 53, 54, 55, 56, 57] from by rw [hw4]; exact bs_mark w3 [49, 50, 51, 52, 53, 54, 55, 56, 57] (by decide) _ _ 9)
  have hcrc := CRC32C_any (some ⟨w3.heap.size, 0, none⟩) 9 9 [49, 50, 51, 52, 53, 54, 55, 56, 57] w4 HBS4.out (by decide)
  rw [crc_nine] at hcrc
  have HCRC := hid hcrc
  have HB4 := hid (HB3.out.trans (hb4.mono HB3.out.size))
  have HV4 := hid (HV3.out.below hb4)
  clear hcrc hb4
  go_wp2_with fail
  change Calls _ _ _ (w3.alloc (.cells (u8s [49, 50, 51, 52, 53, 54, 55, 56, 57]).toArray 5 (9, 10))) _
  rw [← hw4]
  clear hw4
  refine HCRC.out.mono ?_
  clear HCRC
  rintro e w5 ⟨rfl, rfl⟩
  go_wp2_with fail
  refine (newField_any w4).mono ?_
  rintro e w6 ⟨rfl, hF6, hb6⟩
  have HB6 := hid (HB4.out.trans (hb6.mono HB4.out.size))
  have HV6 := hid (HV4.out.below hb6)
  obtain ⟨fb, hfb⟩ : ∃ x, x = w4.heap.size := ⟨_, rfl⟩
  rw [← hfb] at hF6 ⊢
  have hfw : w.heap.size ≤ fb := by rw [hfb]; exact HB4.out.size
  have HF6 := hid hF6
  clear hb6 hfb hF6
  obtain ⟨w7, hw7⟩ : ∃ x, x = w6.alloc (.cells (u8s [97, 98]).toArray 5 (2, 3)) := ⟨_, rfl⟩
  have hb7 : Below w6.heap.size w6 w7 := by rw [hw7]; exact (Below.refl _ _).alloc (Nat.le_refl _) _
  have HBS7 := hid (show Bs w7 (.slice (some ⟨w6.heap.size, 0, none⟩) 2 2) [97, 98] from by rw [hw7]; exact bs_mark w6 [97, 98] (by decide) _ _ 2)
  have HF7 := hid (show Fld w7 fb from .inl ((hb7.block fb (lt_of_heap HF6.out)).trans HF6.out))
  have hf67 : fb < w6.heap.size := lt_of_heap HF6.out
  have HB7 := hid (HB6.out.trans (hb7.mono HB6.out.size))
  have HV7 := hid (HV6.out.below hb7)
  have HMK := hid (Make_any fb 2 3 3 2 2 (some ⟨w6.heap.size, 0, none⟩) shaRound shaStart [97, 98] w7 HF7.out HV7.out HBS7.out (by show w6.heap.size ≠ fb; omega) (Nat.le_refl _) (by decide) (by decide) (by decide) (by decide) (by decide) (by omega))
  clear hb7
  go_wp2_with fail
  change Calls _ _ _ (w6.alloc (.cells (u8s [97, 98]).toArray 5 (2, 3))) _
  rw [← hw7]
  clear hw7
  refine HMK.out.mono ?_
  clear HMK
  rintro e w8 ⟨rb, mb, g, gd, bf, N, rfl, R⟩
  have HB8 := hid (HB7.out.trans (R.kept.below HB7.out.size hfw))
  have hdl2 := dig_length shaRound shaStart [97, 98]
  have HDG := hid (show DgAt w8 (.slice (some ⟨gd, 0, none⟩) 3 3) [pdg shaRound shaStart [97, 98] 2 (plen 2 2) 0, pdg shaRound shaStart [97, 98] 2 (plen 2 2) 1, pdg shaRound shaStart [97, 98] 2 (plen 2 2) 2] from dgAt_three R.rng)
  have HLT2 := hid (show ∀ x ∈ dig shaRound shaStart [97, 98], x < 256 from digL_lt ())
  generalize pdg shaRound shaStart [97, 98] 2 (plen 2 2) 0 = g0 at *
  generalize pdg shaRound shaStart [97, 98] 2 (plen 2 2) 1 = g1 at *
  generalize pdg shaRound shaStart [97, 98] 2 (plen 2 2) 2 = g2 at *
  generalize dig shaRound shaStart [97, 98] = od at *
  have HML := hid (mcells_length ((2 : Nat) : Int) ((3 : Nat) : Int) ((3 : Nat) : Int) ((2 : Nat) : Int) od (.slice (some ⟨gd, 0, none⟩) 3 3) hdl2)
  have HON := hid (mcells_one ((2 : Nat) : Int) ((3 : Nat) : Int) ((3 : Nat) : Int) ((2 : Nat) : Int) od (some ⟨gd, 0, none⟩) 3 3)
  have HC3 := hid (fun (w' : World) (b : Nat) (h : w'.heap[b]? = some (.cells (mcells ((2 : Nat) : Int) ((3 : Nat) : Int) ((3 : Nat) : Int) ((2 : Nat) : Int) od (.slice (some ⟨gd, 0, none⟩) 3 3)).toArray 27 (0, 0))) => (show w'.cell? ⟨b, 3, none⟩ = some (.int .i64 ((2 : Nat) : Int)) from (ManAt.c h hdl2).2.2.2.1))
  have HEN := hid (fun (wx : World) (h : DgAt wx (.slice (some ⟨gd, 0, none⟩) 3 3) [g0, g1, g2]) => EncodeM_any 2 3 3 2 od [g0, g1, g2] (.slice (some ⟨gd, 0, none⟩) 3 3) hdl2 HLT2.out wx h (by rfl))
  have H7 := hid (man_known od hdl2 [g0, g1, g2])
  obtain ⟨M, hM⟩ : ∃ x, x = mcells ((2 : Nat) : Int) ((3 : Nat) : Int) ((3 : Nat) : Int) ((2 : Nat) : Int) od (.slice (some ⟨gd, 0, none⟩) 3 3) := ⟨_, rfl⟩
  rw [← hM] at HML HON HC3
  have HEN := hid (fun (wx : World) (h : DgAt wx (.slice (some ⟨gd, 0, none⟩) 3 3) [g0, g1, g2]) => (show Calls Tryd.prog 31 #[.agg M.toArray] wx fun e w' => ∃ u, e = .returned (.tuple #[u, .int .i64 0]) ∧ ∃ wy, Copied wy (7 + 32 * (1 + 3)) (encTo 2 3 3 2 od [g0, g1, g2] 3) u w' ∧ Below wx.heap.size wx wy from by rw [hM]; exact HEN.out wx h))
  rw [← hM]
  have HIF := hid (show (Tryd.prog.info? 27).map (·.size) = some M.length from by rw [HML.out]; kernel_rfl)
  have HIF2 := hid (show (Tryd.prog.info? 27).map (·.size) = some M.toArray.size from by rw [List.size_toArray, HML.out]; kernel_rfl)
  have HSZ := hid (show mz.size = M.toArray.size from by rw [show M.toArray.size = 37 from by rw [List.size_toArray, HML.out]]; rfl)
  obtain ⟨w9, hw9⟩ : ∃ x, x = w8.alloc (.cells mz 27) := ⟨_, rfl⟩
  have hb9 : Below w8.heap.size w8 w9 := by rw [hw9]; exact (Below.refl _ _).alloc (Nat.le_refl _) _
  have HR9 := hid (show w9.heap[w8.heap.size]? = some (.cells mz 27 (0, 0)) from by rw [hw9]; exact heap_new _ _)
  have hs8 := HB8.out.size
  have HB9 := hid (HB8.out.trans (hb9.mono HB8.out.size))
  have HDG9 := hid (HDG.out.same (hb9.block _ R.gdl))
  have hgd8 := R.gdl
  obtain ⟨mbk, hmbk⟩ : ∃ x, x = w8.heap.size := ⟨_, rfl⟩
  rw [← hmbk] at HR9
  clear hM hdl2 hb9 N R HLT2 HDG
  go_wp2_with (first
    | (refine wpList_store_row (by rfl) 27 (.tmp 1) (.tmp 22) (by rfl) w8.heap.size mz M.toArray 27 (by rfl) (by rfl) (by rw [← hmbk]; exact (by rw [hw9] at HR9; exact HR9.out)) HIF2.out HSZ.out HON.out ?_
       intro wa hwa hka)
    | (refine wpList_load_mid (by rfl) 27 (.tmp 1) (by rfl) w8.heap.size 0 (by rfl) M _ (range_of_heap hwa) Tryd.underlying27 rfl HIF.out ?_))
  have hka : Kept w8.heap.size w9 wa := by rw [hw9]; exact hka
  have HBa := hid (HB9.out.trans (hka.below HB9.out.size hs8))
  have HWA := hid hwa
  have hlt8 : w8.heap.size < wa.heap.size := lt_of_heap hwa
  refine (HEN.out wa (HDG9.out.same (hka.block _ (by rw [hw9]; simp; omega) (by omega)))).mono ?_
  clear hwa hka HEN hw9 HDG9 HR9 hmbk
  rintro e wb ⟨u, rfl, wy, hcp, hby⟩
  obtain ⟨au, cu, rfl, hcu, hbs, hnil, hfar, hbu⟩ := hcp
  have hbb : Below wa.heap.size wa wb := hby.trans (hbu.mono hby.size)
  have c3 := HC3.out wb w8.heap.size ((hbb.block _ hlt8).trans HWA.out)
  have HBb := hid (HBa.out.trans (hbb.mono HBa.out.size))
  have hup := fun w' => upto_run au (7 + 32 * (1 + 3)) cu 7 (by omega) w'
  have hbs7 := bs_upto hbs 7 (by omega)
  rw [H7.out] at hbs7
  have hcv := conv_bs hbs7
  rw [bstr_seven] at hcv
  clear hbb hbu hbs hnil hfar hby hbs7 HC3 H7 HWA
  go_wp2
  go_ret
  exact ⟨rfl, HBb.out⟩
end Go.Proofs.YtafkjfpmjhfofaaDoor
