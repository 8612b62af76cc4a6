/-
  pad: the last chunk completed.
-/
import Derived.Test.YteaidpbopgjleaaDoorHw
namespace Go.Proofs.YteaidpbopgjleaaDoor
open Go Go.RowKit
set_option linter.unusedVariables false

/-- how many bytes go before the length -/
def padB (sz : Nat) : Nat := 64 - (sz + 8) % 64
/-- a byte of the padding, of which i bytes of the length are there -/
def padF (sz i j : Nat) : Nat := if j = 0 then 128 else if padB sz ≤ j ∧ j < padB sz + i then (sz * 8 / 2 ^ (56 - 8 * (j - padB sz))) % 256 else 0
def endL (sz i : Nat) : List Nat := (List.range 72).map (padF sz i)
def padL (sz : Nat) : List Nat := (List.range (padB sz + 8)).map (padF sz 8)
theorem padB_le (sz : Nat) : 1 ≤ padB sz ∧ padB sz ≤ 64 := by unfold padB; omega
theorem padF_lt (sz i j : Nat) : padF sz i j < 256 := by
  unfold padF
  split
  · omega
  · split
    · exact Nat.mod_lt _ (by decide)
    · omega
theorem endL_getD (sz i j : Nat) (hj : j < 72) : (endL sz i).getD j 0 = padF sz i j := by
  unfold endL
  rw [List.getD_eq_getElem?_getD, List.getElem?_map, List.getElem?_range hj]
  rfl
theorem endL_length (sz i : Nat) : (endL sz i).length = 72 := by simp [endL]
theorem endL_step (sz i : Nat) (hi : i < 8) : (endL sz i).set (padB sz + i) ((sz * 8 / 2 ^ (56 - 8 * i)) % 256) = endL sz (i + 1) := by
  have hb := padB_le sz
  refine getD_ext2 (by rw [List.length_set, endL_length, endL_length]) fun j hj => ?_
  rw [List.length_set, endL_length] at hj
  rw [set_getD2 _ _ _ _ (by rw [endL_length]; omega), endL_getD _ _ _ hj, endL_getD _ _ _ hj]
  unfold padF
  by_cases e : j = padB sz + i
  · rw [if_pos e, if_neg (by omega), if_pos (by omega), e, Nat.add_sub_cancel_left]
  · rw [if_neg e]
    by_cases h0 : j = 0
    · rw [if_pos h0, if_pos h0]
    · rw [if_neg h0, if_neg h0]
      by_cases h1 : padB sz ≤ j ∧ j < padB sz + i
      · rw [if_pos h1, if_pos (by omega)]
      · rw [if_neg h1, if_neg (by omega)]
theorem endL_pad (sz : Nat) : (endL sz 8).take (padB sz + 8) = padL sz := by
  have hb := padB_le sz
  unfold endL padL
  rw [← List.map_take, List.take_range, Nat.min_eq_left (by omega)]
theorem padL_length (sz : Nat) : (padL sz).length = padB sz + 8 := by simp [padL]
theorem endL_zero (sz : Nat) : endL sz 0 = (List.replicate 72 0).set 0 128 := by
  refine getD_ext2 (by rw [List.length_set, endL_length, List.length_replicate]) fun j hj => ?_
  rw [endL_length] at hj
  rw [endL_getD _ _ _ hj, set_getD2 _ _ _ _ (by simp), zeros_getD]
  unfold padF
  by_cases e : j = 0
  · rw [if_pos e, if_pos e]
  · rw [if_neg e, if_neg e, if_neg (by omega)]
/-- the 72 bytes -/
def Own9 (w : World) (b : Nat) (l : List Nat) : Prop := w.heap[b]? = some (.cells (u8s l).toArray 130 (0, 0))
theorem Own9.free {w : World} {b : Nat} {l : List Nat} (h : Own9 w b l) (i : Nat) : w.frozen? ⟨b, i, none⟩ = false := free_of_heap h i
theorem Own9.cell {w : World} {b : Nat} {l : List Nat} (h : Own9 w b l) (i : Nat) (hi : i < l.length) : w.cell? ⟨b, i, none⟩ = some (.int .u8 ((l.getD i 0 : Nat) : Int)) := by
  rw [cell_of_heap h]
  simp [u8s, List.getElem?_eq_getElem hi]
theorem Own9.set {w : World} {b : Nat} {l : List Nat} (h : Own9 w b l) (i n : Nat) : Own9 (w.setCell ⟨b, i, none⟩ (.int .u8 ((n : Nat) : Int))) b (l.set i n) := by
  have h1 := heap_set h i (.int .u8 n)
  show _ = _
  rw [h1]
  simp [u8s, List.map_set]
theorem zero9 : Tryd.zeroCells130 = (u8s (List.replicate 72 0)).toArray := by kernel_rfl
theorem end_slice (b k : Nat) (hk : k ≤ 72) (w : World) : (Instr.sliceAt 130 (.pointer (some ⟨b, 0, none⟩)) none (some (.int .i64 (k : Int))) none).run Tryd.prog w = .ok (.slice (some ⟨b, 0, none⟩) k 72) w := by
  have u1 : (k : Int) ≤ 72 := by omega
  simp [go_sem, Instr.sliceAt, Instr.slice, run_underlying Tryd.underlying130, u1]

set_option maxRecDepth 100000 in
set_option maxHeartbeats 4000000 in
theorem pad_any (hb : Nat) (KC SH m : List Nat) (w : World) (M : MsgAt w hb KC SH m) (V : Vars w KC SH) (h3 : 2 ≤ hb) (hsz : m.length ≤ 900000000) :
    Calls Tryd.prog 39 #[.pointer (some ⟨hb, 0, none⟩)] w fun e w' => e = .returned (.tuple #[]) ∧ MsgAt w' hb KC SH (m ++ padL m.length) ∧ Kept hb w w' := by
  obtain ⟨h, ch, H, e1, e2⟩ := M
  have c72 := H.size_
  have hlt := H.lt
  have HM := hid (show MsgAt w hb KC SH m from ⟨h, ch, H, e1, e2⟩)
  have HV := hid V
  obtain ⟨sz, hs⟩ : ∃ sz, sz = m.length := ⟨_, rfl⟩
  rw [← hs] at c72 hsz
  have hbb := padB_le sz
  obtain ⟨bf, hbf⟩ : ∃ bf, bf = padB sz := ⟨_, rfl⟩
  have hB := hid hbf
  have hr1 : ((sz : Int) + 8).tmod 64 = (((sz + 8) % 64 : Nat) : Int) := by rw [Int.tmod_eq_emod_of_nonneg (by omega)]; omega
  obtain ⟨rm, hrm⟩ : ∃ rm, rm = (sz + 8) % 64 := ⟨_, rfl⟩
  rw [← hrm] at hr1
  have w1 : IntKind.i64.wrap ((sz : Int) + 8) = (sz : Int) + 8 := by rw [IntKind.wrap_i64]; omega
  have w2 : IntKind.i64.wrap (rm : Int) = (rm : Int) := by rw [IntKind.wrap_i64]; omega
  have w3 : IntKind.i64.wrap (64 - (rm : Int)) = (bf : Int) := by rw [IntKind.wrap_i64, hbf]; unfold padB; omega
  have w4 : 64 - (rm : Int) = (bf : Int) := by rw [hbf]; unfold padB; omega
  have w5 : IntKind.u64.wrap (sz : Int) = (sz : Int) := by rw [IntKind.wrap_u64]; omega
  have HS := hid hs
  clear V H e1 e2 hbf hrm hs
  go_enter Tryd.func39, Tryd.ntmps39
  go_wp2
  obtain ⟨w1', hw1'⟩ : ∃ w1', w1' = w.alloc (.cells (Tryd.zeroCells130.setIfInBounds 0 (.int .u8 128)) 130) := ⟨_, rfl⟩
  rw [← hw1']
  have HO := hid (show Own9 w1' w.heap.size (endL sz 0) from by
    rw [hw1', endL_zero, zero9]
    have h5 := heap_new w (.cells ((u8s (List.replicate 72 0)).toArray.setIfInBounds 0 (.int .u8 128)) 130)
    rw [List.setIfInBounds_toArray] at h5 ⊢
    show _ = _
    rw [h5]
    simp [u8s])
  have HBL := hid (show Below w.heap.size w w1' from by rw [hw1']; exact (Below.refl _ _).alloc (Nat.le_refl _) _)
  clear hw1' c72
  go_loopw [20] (fun iv wr => ∃ i : Nat, i ≤ 8 ∧ iv = .int .i64 i ∧ Hid (Own9 wr w.heap.size (endL sz i)) ∧ Hid (Below w.heap.size w wr)) (fun iv _ => 8 - (intOf iv).toNat)
  case atStart => exact ⟨0, by omega, rfl, HO, HBL⟩
  case round =>
    clear HO HBL
    obtain ⟨i, hi, rfl, HO, HBL⟩ := hrel
    by_cases hi8 : i < 8
    · have hI : (i : Int) < 8 := by omega
      have hpb := hB.out
      obtain ⟨p, hp⟩ : ∃ p, p = bf + i := ⟨_, rfl⟩
      obtain ⟨sh, hsh⟩ : ∃ sh, sh = 56 - 8 * i := ⟨_, rfl⟩
      have p1 : p < 72 := by omega
      have p2 : (p : Int) < 72 := by omega
      have p3 : IntKind.i64.wrap ((bf : Int) + (i : Int)) = (p : Int) := by rw [IntKind.wrap_i64]; omega
      have p4 : (bf : Int) + (i : Int) = (p : Int) := by omega
      have p5 : IntKind.i64.wrap (p : Int) = (p : Int) := by rw [IntKind.wrap_i64]; omega
      have s1 : IntKind.i64.wrap (56 - 8 * (i : Int)) = (sh : Int) := by rw [IntKind.wrap_i64]; omega
      have s2 : 56 - 8 * (i : Int) = (sh : Int) := by omega
      have s3 : IntKind.i64.wrap (8 * (i : Int)) = 8 * (i : Int) := by rw [IntKind.wrap_i64]; omega
      have s4 : IntKind.i64.wrap (sh : Int) = (sh : Int) := by rw [IntKind.wrap_i64]; omega
      have c1 := HO.out.cell p (by rw [endL_length]; exact p1)
      have f1 := HO.out.free p
      have hst := HO.out.set p ((sz * 8 / 2 ^ sh) % 256)
      rw [hp, hpb, hsh, endL_step sz i hi8, ← hpb, ← hp, ← hsh] at hst
      have HST := hid hst
      have HB2 := hid (HBL.out.setCell (p := ⟨w.heap.size, p, none⟩) (Nat.le_refl _) (.int .u8 (((sz * 8 / 2 ^ sh) % 256 : Nat) : Int)))
      clear hst hp hsh hpb
      generalize (endL sz i).getD p 0 = z at *
      have hcast : (sz : Int) * 8 / 2 ^ sh % 256 = (((sz * 8 / 2 ^ sh) % 256 : Nat) : Int) := by simp
      have HCAST := hid (fun (_ : Unit) => hcast)
      clear hcast
      go_wp2
      rw [HCAST.out ()]
      exact ⟨⟨i + 1, by omega, by go_num, HST, HB2⟩, by simp [intOf]; omega⟩
    · have h8 : i = 8 := by omega
      have hI : ¬ ((i : Int) < 8) := by omega
      obtain ⟨p, hp⟩ : ∃ p, p = bf + 8 := ⟨_, rfl⟩
      have p1 : p ≤ 72 := by omega
      have p3 : IntKind.i64.wrap ((bf : Int) + 8) = (p : Int) := by rw [IntKind.wrap_i64]; omega
      have p4 : (bf : Int) + 8 = (p : Int) := by omega
      have p5 : IntKind.i64.wrap (p : Int) = (p : Int) := by rw [IntKind.wrap_i64]; omega
      have hes := end_slice w.heap.size p p1
      have hbs : Bs wr (.slice (some ⟨w.heap.size, 0, none⟩) p 72) (padL sz) := by
        have h5 : ∀ j, j < p → wr.cell? ⟨w.heap.size, j, none⟩ = some (.int .u8 (((padL sz).getD j 0 : Nat) : Int)) := fun j hj => by
          rw [HO.out.cell j (by rw [endL_length]; omega), h8, ← endL_pad, List.getD_eq_getElem?_getD, List.getD_eq_getElem?_getD, List.getElem?_take_of_lt (by rw [← hB.out, ← hp]; exact hj)]
        refine ⟨_, 72, by rw [padL_length, ← hB.out, hp], fun x hx => ?_, fun _ => ⟨w.heap.size, 0, rfl, fun j hj => by rw [Nat.zero_add]; exact h5 j (by rw [padL_length, ← hB.out, ← hp] at hj; exact hj)⟩⟩
        unfold padL at hx
        obtain ⟨j, _, rfl⟩ := List.mem_map.1 hx
        exact padF_lt _ _ _
      have HBS := hid hbs
      have HMW := hid (HM.out.same (HBL.out.block hb hlt))
      have HVW := hid (HV.out.below HBL.out)
      have HK := hid (Kept.of_below (b := hb) HBL.out)
      have hsz2 := HS.out
      clear hbs hp h8
      go_wp2_with fail
      refine (Write_any hb p 72 (some ⟨w.heap.size, 0, none⟩) KC SH m (padL sz) wr HMW.out HVW.out h3 HBS.out p1 (by show w.heap.size ≠ hb; omega) (by omega)).mono ?_
      rintro e9 w9 ⟨rfl, hM9, hk9⟩
      rw [hsz2] at hM9
      have HK9 := hid (HK.out.trans hk9)
      have HM9 := hid hM9
      clear hM9 hk9
      go_wp2
      go_end0
      exact ⟨rfl, HM9.out, HK9.out⟩
end Go.Proofs.YteaidpbopgjleaaDoor
