/-
  DigestHex: the walk.
-/
import Derived.Test.YthcgdpedjjhjpaaDoorKnw
import Derived.Test.YthcgdpedjjhjpaaDoorDigs
import Derived.ChangeKeysEq
import Derived.OpenShut
import Derived.WideShapes
namespace Go.Proofs.YthcgdpedjjhjpaaDoor
open Go Go.RowKit
set_option linter.unusedVariables false

theorem nums_bstr (l : List Nat) (h : ∀ x ∈ l, x < 256) : nums (bstr l) = l := by
  unfold nums bstr
  show ((l.map UInt8.ofNat).toArray.toList).map UInt8.toNat = l
  rw [List.map_map]
  conv => rhs; rw [← List.map_id l]
  apply List.map_congr_left
  intro x hx
  have h1 := h x hx
  simp
  omega
theorem phR_hexL (d : List Nat) (hd : d.length = 32) (hl : ∀ i, d.getD i 0 < 256) : phR (nums (bstr (hexL d 32))) = (d, 0) := by
  have h1 := hexL_lt d 32
  have h2 := hexL_length d 32
  obtain ⟨h3, h4⟩ := pd_hexL d hd hl
  rw [nums_bstr _ h1]
  unfold phR
  rw [if_neg (by omega), if_neg (by omega), if_pos ((phOk_iff _).2 h3), h4]
theorem eqItems_same (d : Nat) (l : List Nat) (w : World) : ∀ is : List Nat, (∀ i ∈ is, i < l.length) → (Op.eqItems (d + 1) 5 1 (u8s l).toArray (u8s l).toArray is).run Tryd.prog w = .ok true w
  | [], _ => by simp [Op.eqItems]
  | i :: is, h => by
    have hi := h i (by simp)
    have hg : (u8s l).toArray[i * 1]? = some (.int .u8 ((l.getD i 0 : Nat) : Int)) := by
      simp [u8s, hi]
    have hp := run_part_plain (P := Tryd.prog) w (e := 5) (by kernel_rfl) hg
    have he := run_equalIn_int (P := Tryd.prog) w d 5 .u8 .u8 ((l.getD i 0 : Nat) : Int) ((l.getD i 0 : Nat) : Int) Tryd.underlying5
    have ih := eqItems_same d l w is (fun j hj => h j (by simp [hj]))
    simp only [Op.eqItems, Sem.run_bind, hp, he, Result.andThen_ok, beq_self_eq_true, Bool.not_true, Bool.false_eq_true, if_false, ih]
theorem eql_same (l : List Nat) (h : l.length = 32) (w : World) : (Op.equalIn 10000 52 (.agg (u8s l).toArray) (.agg (u8s l).toArray)).run Tryd.prog w = .ok true w := by
  have hi0 : (Tryd.prog.info? 5).map (·.size) = some 1 := by kernel_rfl
  obtain ⟨i, hi, _⟩ := Option.map_eq_some_iff.1 hi0
  have hc : Tryd.prog.cellsOf 5 = 1 := by kernel_rfl
  rw [show (10000 : Nat) = 9999 + 1 from rfl, run_equalIn_array w 9999 _ _ Tryd.underlying52 hi, hc]
  have hr : ∀ j ∈ List.range 32, j < l.length := fun j hj => by
    have h9 : j < 32 := List.mem_range.1 hj
    rw [h]
    exact h9
  exact eqItems_same 9998 l w (List.range 32) hr
def cellN (v : Option Value) : Nat := match v with | some (.int _ n) => n.toNat | _ => 0
theorem cellN_int (k : IntKind) (n : Nat) : cellN (some (.int k (n : Int))) = n := rfl
theorem open_arr32 {P : Program} {t e : TypeId} (ht : P.underlying t = some (.array 32 e)) (he : P.underlying e = some (.int .u8)) (hc : P.cellsOf t = 32) (hc1 : P.cellsOf e = 1)
    {H : Type} {enc : TypeId × Value → H} {W : World} {r : Reach} {base b0 : Nat} {spare : Nat → Bool} {held : Bool} {v : Value} {d : DataW H} {ps : List MemPlace}
    (hval : Value.okWide P W r b0 t v) (h : DataW.Trod enc P W base spare held t v d ps) :
    ∃ l : List Nat, v = .agg (u8s l).toArray ∧ l.length = 32 ∧ ∀ i, l.getD i 0 < 256 := by
  simp only [Value.okWide, ht] at hval
  obtain ⟨cs, rfl, hsz, _⟩ := hval
  rw [hc] at hsz
  obtain ⟨fuel, hf⟩ := h
  obtain ⟨xs, m, _, _, _, hxl, hall⟩ := DataW.trod_array ht hf
  have each : ∀ i, i < 32 → ∃ n : Nat, cs[i]? = some (.int .u8 (n : Int)) ∧ n < 256 := fun i hi => by
    have h1 := hall i hi
    rw [hc1, List.getElem?_eq_getElem (show i < xs.length by omega)] at h1
    obtain ⟨n, h2, _, hw⟩ := DataW.trod_int he h1
    have h3 := getElem?_of_chunk (xs := cs) h2
    have h4 := bounds_u8 hw
    exact ⟨n.toNat, by rw [Nat.mul_one] at h3; rw [h3, Int.toNat_of_nonneg h4.1], by omega⟩
  have hat : ∀ i, i < 32 → ((List.range 32).map fun i => cellN cs[i]?)[i]? = some (cellN cs[i]?) := fun i hi => by
    rw [List.getElem?_map, List.getElem?_range hi]
    rfl
  have hlen : ((List.range 32).map fun i => cellN cs[i]?).length = 32 := by rw [List.length_map, List.length_range]
  generalize (List.range 32).map (fun i => cellN cs[i]?) = l at *
  refine ⟨l, ?_, hlen, fun i => ?_⟩
  · congr 1
    apply Array.ext_getElem?
    intro i
    by_cases hi : i < 32
    · obtain ⟨n, h1, h2⟩ := each i hi
      have h3 := hat i hi
      rw [h1, cellN_int] at h3
      rw [h1, List.getElem?_toArray]
      unfold u8s
      rw [List.getElem?_map, h3]
      rfl
    · rw [Array.getElem?_eq_none (by omega), List.getElem?_toArray, List.getElem?_eq_none (by unfold u8s; rw [List.length_map]; omega)]
  · rw [List.getD_eq_getElem?_getD]
    by_cases hi : i < 32
    · obtain ⟨n, h1, h2⟩ := each i hi
      have h3 := hat i hi
      rw [h1, cellN_int] at h3
      rw [h3]
      exact h2
    · rw [List.getElem?_eq_none (by omega)]
      exact Nat.succ_pos _
set_option maxRecDepth 100000 in
theorem open_dig {H : Type} {enc : TypeId × Value → H} {W : World} {base b0 : Nat} {spare : Nat → Bool} {held : Bool} {v : Value} {d : DataW H} {ps : List MemPlace}
    (hval : Value.okWide Tryd.prog W .any b0 52 v) (h : DataW.Trod enc Tryd.prog W base spare held 52 v d ps) :
    ∃ l : List Nat, v = .agg (u8s l).toArray ∧ l.length = 32 ∧ ∀ i, l.getD i 0 < 256 :=
  open_arr32 (P := Tryd.prog) (t := 52) (e := 5) Tryd.underlying52 Tryd.underlying5 (by kernel_rfl) (by kernel_rfl) (W := W) (r := .any) (b0 := b0) (v := v) (enc := enc) (base := base) (spare := spare) (held := held) (d := d) (ps := ps) hval h
theorem wpList_load_want {P : Program} {ops : Array Oper} {rest : List Oper} {op : Oper} {a : Act} {w : World} {Q : Exit → Act → World → Prop} (hw : Region.wanted op (yielded ops a.tmps) = true) (ty : TypeId) (x : Operand) (ho : op.op = .load ty x)
    (b o : Nat) (hx : a.eval x = .pointer (some ⟨b, o, none⟩)) (cs : List Value) (d : TypeDesc) (hc : w.rangeAt b o cs)
    (hu : P.underlying ty = some d) (hd : d.isRow = true) (hi : (P.info? ty).map (·.size) = some cs.length)
    (h : wpList P ops Q rest (a.put op.dst (.agg cs.toArray)) w) : wpList P ops Q (op :: rest) a w :=
  BigFrame.wpList_want hw fun _ hK => wp_load_mid ty x ho b o hx cs d hc hu hd hi (hK _ _ h)

set_option maxRecDepth 100000 in
set_option maxHeartbeats 4000000 in
theorem hexs_walk (w : World) (V : Vars w shaRound shaStart) (d : List Nat) (hd : d.length = 32) (hdl : ∀ i, d.getD i 0 < 256) (S : ByteArray) (hS : S.size ≤ maxLen) :
    Calls Tryd.prog 20 #[.agg (u8s d).toArray, .string S] w fun e w' => e = .returned (.bool true) ∧ Below w.heap.size w w' := by
  have HK := hid (fun (wx : World) (b : Below w.heap.size w wx) => known_dg wx (V.below b))
  clear V
  obtain ⟨w1, hw1⟩ : ∃ x, x = w.alloc (.cells (u8s d).toArray 52) := ⟨_, rfl⟩
  have HB1 := hid (show Below w.heap.size w w1 from by rw [hw1]; exact (Below.refl _ _).alloc (Nat.le_refl _) _)
  have HR1 := hid (show w1.heap[w.heap.size]? = some (.cells (u8s d).toArray 52 (0, 0)) from by rw [hw1]; exact heap_new _ _)
  by_cases h1 : 200 < S.size
  · have hI : 200 < (S.size : Int) := by omega
    go_enter Tryd.func20, Tryd.ntmps20
    go_upto_region 1 with fail
    change Code.wp _ _ _ _ (w.alloc (.cells (u8s d).toArray 52))
    rw [← hw1]
    clear hw1
    go_wp2_with fail
    refine (HK.out w1 HB1.out).mono ?_
    rintro e w2 ⟨rfl, hb2⟩
    go_wp2
    go_ret
    exact ⟨rfl, HB1.out.trans (hb2.mono HB1.out.size)⟩
  have hI : ¬ 200 < (S.size : Int) := by omega
  obtain ⟨X, hX⟩ : ∃ x, x = bstr (hexL d 32) := ⟨_, rfl⟩
  have HHEX := hid (fun wx => (show Calls Tryd.prog 69 #[.agg (u8s d).toArray] wx fun e w' => e = .returned (.string X) ∧ Below wx.heap.size wx w' from by rw [hX]; exact Hex_any d hd hdl wx))
  have HDIG := hid (fun wx => (show Calls Tryd.prog 72 #[.agg (u8s d).toArray] wx fun e w' => e = .returned (.string X) ∧ Below wx.heap.size wx w' from by rw [hX]; exact Digits_any d hd hdl wx))
  have HPX := hid (fun wx => (show Calls Tryd.prog 70 #[.string X] wx fun e w' => e = .returned (.tuple #[.agg (u8s d).toArray, .int .i64 0]) ∧ Below wx.heap.size wx w' from by
    have h := ParseHex_any X (by rw [hX, bstr_size, hexL_length]; omega) wx
    rw [hX, phR_hexL d hd hdl] at h
    rw [hX]
    exact h))
  have HPS := hid (fun wx => ParseHex_any S (by omega) wx)
  have HOS := hid (fun wx => OfDigits_any S (by omega) wx)
  have hl32 := phR_length (nums S)
  obtain ⟨D, hD⟩ : ∃ x, x = (phR (nums S)).1 := ⟨_, rfl⟩
  obtain ⟨r, hr⟩ : ∃ x, x = (phR (nums S)).2 := ⟨_, rfl⟩
  rw [← hD, ← hr] at HPS HOS
  rw [← hD] at hl32
  have e1 := fun wx => eql_same d hd wx
  have e2 := fun wx => eql_same D hl32 wx
  have HIFd := hid (show (Tryd.prog.info? 52).map (·.size) = some (u8s d).length from by rw [show (u8s d).length = 32 from by simp [u8s, hd]]; kernel_rfl)
  have HIFD := hid (show (Tryd.prog.info? 52).map (·.size) = some (u8s D).length from by rw [show (u8s D).length = 32 from by simp [u8s, hl32]]; kernel_rfl)
  have HIFd2 := hid (show (Tryd.prog.info? 52).map (·.size) = some (u8s d).toArray.size from by rw [List.size_toArray, show (u8s d).length = 32 from by simp [u8s, hd]]; kernel_rfl)
  have HIFD2 := hid (show (Tryd.prog.info? 52).map (·.size) = some (u8s D).toArray.size from by rw [List.size_toArray, show (u8s D).length = 32 from by simp [u8s, hl32]]; kernel_rfl)
  have HOLd := hid (show (u8s (List.replicate 32 0)).toArray.size = (u8s d).toArray.size from by rw [List.size_toArray, List.size_toArray]; simp [u8s, hd])
  have HOLD := hid (show (u8s (List.replicate 32 0)).toArray.size = (u8s D).toArray.size from by rw [List.size_toArray, List.size_toArray]; simp [u8s, hl32])
  have HONd := hid (show (u8s d).toArray.all (·.oneCell') = true from all_oneCell_toArray (u8s_oneH _))
  have HOND := hid (show (u8s D).toArray.all (·.oneCell') = true from all_oneCell_toArray (u8s_oneH _))
  clear hD hr hl32 hd hdl hX h1
  go_enter Tryd.func20, Tryd.ntmps20
  go_upto_region 1 with fail
  change Code.wp _ _ _ _ (w.alloc (.cells (u8s d).toArray 52))
  rw [← hw1]
  clear hw1
  go_wp2_with (refine wpList_load_mid (by rfl) 52 (.tmp 2) (by rfl) w.heap.size 0 (by rfl) (u8s d) _ (range_of_heap HR1.out) Tryd.underlying52 rfl HIFd.out ?_)
  -- the digits of d
  refine (HHEX.out w1).mono ?_
  clear HHEX
  rintro e w2 ⟨rfl, hb2⟩
  have HB2 := hid (HB1.out.trans (hb2.mono HB1.out.size))
  have HR2 := hid ((hb2.block _ (lt_of_heap HR1.out)).trans HR1.out)
  clear hb2 HR1 HB1
  go_wp2_with fail
  -- what they are read as
  refine (HPX.out w2).mono ?_
  clear HPX
  rintro e w3 ⟨rfl, hb3⟩
  have HB3 := hid (HB2.out.trans (hb3.mono HB2.out.size))
  have HR3 := hid ((hb3.block _ (lt_of_heap HR2.out)).trans HR2.out)
  clear hb3 HR2 HB2
  obtain ⟨w4, hw4⟩ : ∃ x, x = w3.alloc (.cells (u8s (List.replicate 32 0)).toArray 52) := ⟨_, rfl⟩
  have hb4 : Below w3.heap.size w3 w4 := by rw [hw4]; exact (Below.refl _ _).alloc (Nat.le_refl _) _
  have HN4 := hid (show w4.heap[w3.heap.size]? = some (.cells (u8s (List.replicate 32 0)).toArray 52 (0, 0)) from by rw [hw4]; exact heap_new _ _)
  have HB4 := hid (HB3.out.trans (hb4.mono HB3.out.size))
  have HR4 := hid ((hb4.block _ (lt_of_heap HR3.out)).trans HR3.out)
  have hs3 := HB3.out.size
  have hn3 : w.heap.size ≠ w3.heap.size := Nat.ne_of_lt (lt_of_heap HR3.out)
  clear hb4 HB3 HR3
  go_wp2_with (refine wpList_store_row (by rfl) 52 (.tmp 6) (.tmp 21) (by rfl) w3.heap.size (u8s (List.replicate 32 0)).toArray (u8s d).toArray 52 (by rfl) (by rfl) (by rw [hw4] at HN4; exact HN4.out) HIFd2.out HOLd.out HONd.out ?_
               intro w5 hw5 hk5)
  have hk5 : Kept w3.heap.size w4 w5 := by rw [hw4]; exact hk5
  have HB5 := hid (HB4.out.trans (hk5.below HB4.out.size hs3))
  have HR5 := hid ((hk5.block _ (lt_of_heap HR4.out) hn3).trans HR4.out)
  have HC5 := hid hw5
  clear hk5 hw5 HN4 HB4 HR4 hw4
  obtain ⟨b6, hb6⟩ : ∃ x, x = w3.heap.size := ⟨_, rfl⟩
  rw [← hb6] at HC5 ⊢
  clear hb6 hs3 hn3
  -- what S is read as
  refine (HPS.out w5).mono ?_
  clear HPS
  rintro e w6 ⟨rfl, hb6⟩
  have HB6 := hid (HB5.out.trans (hb6.mono HB5.out.size))
  have HR6 := hid ((hb6.block _ (lt_of_heap HR5.out)).trans HR5.out)
  have HC6 := hid ((hb6.block _ (lt_of_heap HC5.out)).trans HC5.out)
  clear hb6 HR5 HB5 HC5
  obtain ⟨w7, hw7⟩ : ∃ x, x = w6.alloc (.cells (u8s (List.replicate 32 0)).toArray 52) := ⟨_, rfl⟩
  have hb7 : Below w6.heap.size w6 w7 := by rw [hw7]; exact (Below.refl _ _).alloc (Nat.le_refl _) _
  have HN7 := hid (show w7.heap[w6.heap.size]? = some (.cells (u8s (List.replicate 32 0)).toArray 52 (0, 0)) from by rw [hw7]; exact heap_new _ _)
  have HB7 := hid (HB6.out.trans (hb7.mono HB6.out.size))
  have HR7 := hid ((hb7.block _ (lt_of_heap HR6.out)).trans HR6.out)
  have HC7 := hid ((hb7.block _ (lt_of_heap HC6.out)).trans HC6.out)
  have hs6 := HB6.out.size
  have hn6 : w.heap.size ≠ w6.heap.size := Nat.ne_of_lt (lt_of_heap HR6.out)
  have hm6 : b6 ≠ w6.heap.size := Nat.ne_of_lt (lt_of_heap HC6.out)
  clear hb7 HB6 HR6 HC6
  go_wp2_with (refine wpList_store_row (by rfl) 52 (.tmp 8) (.tmp 26) (by rfl) w6.heap.size (u8s (List.replicate 32 0)).toArray (u8s D).toArray 52 (by rfl) (by rfl) (by rw [hw7] at HN7; exact HN7.out) HIFD2.out HOLD.out HOND.out ?_
               intro w8 hw8 hk8)
  have hk8 : Kept w6.heap.size w7 w8 := by rw [hw7]; exact hk8
  have HB8 := hid (HB7.out.trans (hk8.below HB7.out.size hs6))
  have HR8 := hid ((hk8.block _ (lt_of_heap HR7.out) hn6).trans HR7.out)
  have HC8 := hid ((hk8.block _ (lt_of_heap HC7.out) hm6).trans HC7.out)
  have HE8 := hid hw8
  clear hk8 hw8 HN7 HB7 HR7 HC7 hw7
  obtain ⟨b8, hb8⟩ : ∃ x, x = w6.heap.size := ⟨_, rfl⟩
  rw [← hb8] at HE8 ⊢
  clear hb8 hs6 hn6 hm6
  -- and by the reference
  refine (HOS.out w8).mono ?_
  clear HOS
  rintro e w9 ⟨rfl, hb9⟩
  have HB9 := hid (HB8.out.trans (hb9.mono HB8.out.size))
  have HR9 := hid ((hb9.block _ (lt_of_heap HR8.out)).trans HR8.out)
  have HC9 := hid ((hb9.block _ (lt_of_heap HC8.out)).trans HC8.out)
  have HE9 := hid ((hb9.block _ (lt_of_heap HE8.out)).trans HE8.out)
  clear hb9 HR8 HB8 HC8 HE8
  obtain ⟨wa, hwa⟩ : ∃ x, x = w9.alloc (.cells (u8s (List.replicate 32 0)).toArray 52) := ⟨_, rfl⟩
  have hba : Below w9.heap.size w9 wa := by rw [hwa]; exact (Below.refl _ _).alloc (Nat.le_refl _) _
  have HNa := hid (show wa.heap[w9.heap.size]? = some (.cells (u8s (List.replicate 32 0)).toArray 52 (0, 0)) from by rw [hwa]; exact heap_new _ _)
  have HBa := hid (HB9.out.trans (hba.mono HB9.out.size))
  have HRa := hid ((hba.block _ (lt_of_heap HR9.out)).trans HR9.out)
  have HCa := hid ((hba.block _ (lt_of_heap HC9.out)).trans HC9.out)
  have HEa := hid ((hba.block _ (lt_of_heap HE9.out)).trans HE9.out)
  have hs9 := HB9.out.size
  have hn9 : w.heap.size ≠ w9.heap.size := Nat.ne_of_lt (lt_of_heap HR9.out)
  have hm9 : b6 ≠ w9.heap.size := Nat.ne_of_lt (lt_of_heap HC9.out)
  have ho9 : b8 ≠ w9.heap.size := Nat.ne_of_lt (lt_of_heap HE9.out)
  clear hba HB9 HR9 HC9 HE9
  go_wp2_with (first
    | (refine wpList_store_row (by rfl) 52 (.tmp 10) (.tmp 31) (by rfl) w9.heap.size (u8s (List.replicate 32 0)).toArray (u8s D).toArray 52 (by rfl) (by rfl) (by rw [hwa] at HNa; exact HNa.out) HIFD2.out HOLD.out HOND.out ?_
       intro wb hwb hkb)
    | (refine wpList_load_mid (by rfl) 52 (.tmp 2) (by rfl) w.heap.size 0 (by rfl) (u8s d) _ (range_of_heap ((Kept.block (by rw [hwa]; exact hkb) _ (lt_of_heap HRa.out) hn9).trans HRa.out)) Tryd.underlying52 rfl HIFd.out ?_))
  have hkb : Kept w9.heap.size wa wb := by rw [hwa]; exact hkb
  have HBb := hid (HBa.out.trans (hkb.below HBa.out.size hs9))
  have HRb := hid ((hkb.block _ (lt_of_heap HRa.out) hn9).trans HRa.out)
  have HCb := hid ((hkb.block _ (lt_of_heap HCa.out) hm9).trans HCa.out)
  have HEb := hid ((hkb.block _ (lt_of_heap HEa.out) ho9).trans HEa.out)
  have HFb := hid hwb
  clear hkb hwb HNa HBa HRa HCa HEa hwa
  obtain ⟨ba, hb10⟩ : ∃ x, x = w9.heap.size := ⟨_, rfl⟩
  rw [← hb10] at HFb ⊢
  clear hb10 hs9 hn9 hm9 ho9
  refine (HDIG.out wb).mono ?_
  clear HDIG
  rintro e wc ⟨rfl, hbc⟩
  have HBc := hid (HBb.out.trans (hbc.mono HBb.out.size))
  have HRc := hid ((hbc.block _ (lt_of_heap HRb.out)).trans HRb.out)
  have HCc := hid ((hbc.block _ (lt_of_heap HCb.out)).trans HCb.out)
  have HEc := hid ((hbc.block _ (lt_of_heap HEb.out)).trans HEb.out)
  have HFc := hid ((hbc.block _ (lt_of_heap HFb.out)).trans HFb.out)
  clear hbc HBb HRb HCb HEb HFb
  go_wp2_with (first
    | (refine wpList_load_want (by rfl) 52 (.tmp 6) (by rfl) b6 0 (by rfl) (u8s d) _ (range_of_heap HCc.out) Tryd.underlying52 rfl HIFd.out ?_)
    | (refine wpList_load_want (by rfl) 52 (.tmp 2) (by rfl) w.heap.size 0 (by rfl) (u8s d) _ (range_of_heap HRc.out) Tryd.underlying52 rfl HIFd.out ?_)
    | (refine wpList_load_want (by rfl) 52 (.tmp 8) (by rfl) b8 0 (by rfl) (u8s D) _ (range_of_heap HEc.out) Tryd.underlying52 rfl HIFD.out ?_)
    | (refine wpList_load_want (by rfl) 52 (.tmp 10) (by rfl) ba 0 (by rfl) (u8s D) _ (range_of_heap HFc.out) Tryd.underlying52 rfl HIFD.out ?_))
  refine (HK.out wc HBc.out).mono ?_
  rintro e wd ⟨rfl, hbd⟩
  have HBd := hid (HBc.out.trans (hbd.mono HBc.out.size))
  clear hbd
  go_wp2
  go_ret
  exact ⟨rfl, HBd.out⟩
end Go.Proofs.YthcgdpedjjhjpaaDoor
