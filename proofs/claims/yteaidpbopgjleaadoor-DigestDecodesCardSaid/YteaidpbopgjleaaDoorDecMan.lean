/-
  readDigest. · What DecodeManifest reads. · DecodeManifest.
-/
import Derived.Test.YteaidpbopgjleaaDoorRdK
import Derived.Test.YteaidpbopgjleaaDoorMkB
import Derived.Laws.IdiomCopy
import Derived.Deep.DeepCutAuto
import Derived.Test.YteaidpbopgjleaaDoorVals
import Derived.Test.YteaidpbopgjleaaDoorMake
namespace Go.Proofs.YteaidpbopgjleaaDoor
open Go Go.RowKit
set_option linter.unusedVariables false

/-- 32 bytes, or none -/
def pad32 (l : List Nat) : List Nat := if l.length = 32 then l else List.replicate 32 0
theorem pad32_length (l : List Nat) : (pad32 l).length = 32 := by unfold pad32; split <;> simp_all
theorem rtake_32 (l : List Nat) (err : Int) : (rtake l err 32).1.length = 32 ∨ (rtake l err 32).1 = [] := by
  unfold rtake
  split
  · exact .inr rfl
  · split
    · exact .inr rfl
    · split
      · exact .inr rfl
      · left
        simp only [List.length_take]
        omega
/-- copy into a digest -/
theorem step_copy_dig {ops : Array Oper} {o : Oper} {a : Act} {w : World} {K : Act → World → Prop} {Q : Exit → Act → World → Prop} {E : Prop} (hgd : o.guard = none) (d s : Operand)
    (ho : o.op = .call { callee := .builtin .copy, args := #[d, s], argTypes := #[26, 26] }) (g : Nat) (H : OwnD w g (List.replicate 32 0))
    (hd : a.eval d = .slice (some ⟨g, 0, none⟩) 32 32) (sa : Option Addr) (n sCap : Nat) (hs : a.eval s = .slice sa n sCap) (l : List Nat) (hbs : Bs w (.slice sa n sCap) l) (hl : l.length = 32 ∨ l = [])
    (hK : ∀ w' v, OwnD w' g (pad32 l) → Kept g w w' → K (a.put o.dst v) w') :
    if Region.wanted o (yielded ops a.tmps) = true then Oper.wp Tryd.prog o a w K Q else E := by
  have hw : Region.wanted o (yielded ops a.tmps) = true := by simp [Region.wanted, hgd]
  rw [if_pos hw]
  have hlen := hbs.len
  rcases hl with hl | hl
  · obtain rfl : n = 32 := by omega
    obtain ⟨b, o', rfl⟩ : ∃ b o', sa = some ⟨b, o', none⟩ := by
      rcases hbs.addr with ⟨h0, _⟩ | ⟨_, b, o', c', hv⟩
      · rw [h0] at hl; simp at hl
      · simp only [Value.slice.injEq] at hv
        exact ⟨b, o', hv.1⟩
    have hsrc : ∀ j v, (u8s l)[j]? = some v → w.cell? ((⟨b, o', none⟩ : Addr).add j) = some v := fun j v hj => by
      have hjl : j < l.length := by have := (List.getElem?_eq_some_iff.1 hj).1; simpa [u8s] using this
      rw [add_noneD, hbs.cell j hjl, ← hj]
      simp [u8s, List.getElem?_eq_getElem hjl]
    have hl2 : (u8s l).length = 32 := by simp [u8s, hl]
    have hz : (u8s (List.replicate 32 0)).length = 32 := by unfold u8s; rw [List.length_map, List.length_replicate]
    have hrun := run_copy_row (P := Tryd.prog) w 26 26 o.type 5 g 0 32 32 ⟨b, o', none⟩ 32 sCap (u8s (List.replicate 32 0)).toArray 30 (u8s l) Tryd.underlying26 size5' H (by rw [hl2]; rfl) hsrc (by rw [hl2, List.size_toArray, hz]; exact Nat.le_refl _) (u8s_oneH _)
    have hdr : ((u8s (List.replicate 32 0)).toArray.toList.take 0 ++ u8s l ++ (u8s (List.replicate 32 0)).toArray.toList.drop (0 + (u8s l).length)) = u8s l := by
      rw [List.take_zero, List.nil_append, List.toList_toArray, List.drop_eq_nil_of_le (by rw [hl2, hz]; exact Nat.le_refl _), List.append_nil]
    rw [hdr] at hrun
    unfold Oper.wp execOp
    simp only [ho, resolve, invoke, builtin, Sem.run_bind, Sem.run_pure, Result.andThen_ok, List.map_toArray, List.map_cons, List.map_nil, hd, hs, hrun]
    refine hK _ _ ?_ ⟨rfl, rfl, rfl, by simp [World.setRow], fun k _ hk => setRow_other w g k _ hk⟩
    have hp : pad32 l = l := by unfold pad32; rw [if_pos hl]
    rw [hp]
    exact setRow_heap w g _ _ _ (0, 0) H
  · subst hl
    obtain rfl : n = 0 := hlen
    have hrun := run_copy_none (P := Tryd.prog) w 26 26 o.type 5 (some ⟨g, 0, none⟩) sa 32 32 0 sCap Tryd.underlying26 size5' rfl
    unfold Oper.wp execOp
    simp only [ho, resolve, invoke, builtin, Sem.run_bind, Sem.run_pure, Result.andThen_ok, List.map_toArray, List.map_cons, List.map_nil, hd, hs, hrun]
    exact hK _ _ H (Kept.refl _ _)
theorem RdAt.drewN {w : World} {rb : Nat} {a : Option Addr} {c : Nat} {l : List Nat} {err : Int} (R : RdAt w rb a c l err) (q : Nat) : RdAt (w.drewN q) rb a c l err := ⟨R.at_, R.bs.drewN q, R.cap, R.nil, R.off⟩
theorem range_of_heapD {w : World} {b : Nat} {cs : List Value} {T : TypeId} (h : w.heap[b]? = some (.cells cs.toArray T (0, 0))) : w.rangeAt b 0 cs := fun j v hj => by
  rw [Nat.zero_add, cell_of_heap h, List.getElem?_toArray]
  exact hj
theorem dig_slice (g : Nat) (w : World) : (Instr.sliceAt 30 (.pointer (some ⟨g, 0, none⟩)) none none none).run Tryd.prog w = .ok (.slice (some ⟨g, 0, none⟩) 32 32) w := by
  simp [go_sem, Instr.sliceAt, Instr.slice, run_underlying Tryd.underlying30]

set_option maxRecDepth 100000 in
set_option maxHeartbeats 2000000 in
theorem readDigest_any (rb : Nat) (a : Option Addr) (c : Nat) (l : List Nat) (err : Int) (w : World) (R : RdAt w rb a c l err) (hlow : ∀ ad, a = some ad → ad.block < w.heap.size) :
    Calls Tryd.prog 58 #[.pointer (some ⟨rb, 0, none⟩)] w fun e w' => e = .returned (.agg (u8s (pad32 (rtake l err 32).1)).toArray) ∧ RdTo w rb a (rtake l err 32).2 w' := by
  obtain ⟨w2, hw2⟩ : ∃ x, x = (w.alloc (.cells (u8s (List.replicate 32 0)).toArray 30)).alloc (.cells (u8s (List.replicate 32 0)).toArray 30) := ⟨_, rfl⟩
  have hb2 : Below w.heap.size w w2 := by rw [hw2]; exact ((Below.refl _ _).alloc (Nat.le_refl _) _).alloc (by simp) _
  have HR2 := hid (show OwnD w2 w.heap.size (List.replicate 32 0) from by
    rw [hw2]
    show ((w.alloc _).alloc _).heap[_]? = _
    rw [heap_alloc_old _ _ (by simp)]
    exact heap_new _ _)
  have hs : (w.alloc (.cells (u8s (List.replicate 32 0)).toArray 30)).heap.size = w.heap.size + 1 := by simp
  have HD2 := hid (show OwnD w2 (w.heap.size + 1) (List.replicate 32 0) from by rw [hw2, ← hs]; exact heap_new _ _)
  have HRA := hid (R.below hb2)
  have HT := hid (fun (wx : World) (h : RdAt wx rb a c l err) => show Calls Tryd.prog 69 #[.pointer (some ⟨rb, 0, none⟩), .int .i64 32] wx (fun e w' => ∃ ao co a' c', e = .returned (.slice ao (rtake l err 32).1.length co) ∧ Bs w' (.slice ao (rtake l err 32).1.length co) (rtake l err 32).1 ∧
      RdAt w' rb a' c' (rtake l err 32).2.1 (rtake l err 32).2.2 ∧ Kept rb wx w' ∧ Src a a') from (take_any rb a c l err 32 wx h).mono fun e w' h => by
        obtain ⟨ao, co, a', c', h1, h2, h3, h4, _, h5, h6, h7⟩ := h
        exact ⟨ao, co, a', c', h1, h2, h5, h6, h7⟩)
  have h32 := hid (rtake_32 l err)
  have hrb : rb < w.heap.size := lt_of_heap R.at_
  have HB2 := hid hb2
  have HLOW := hid hlow
  have hds := dig_slice (w.heap.size + 1)
  clear R hb2 hs hlow
  generalize rtake l err 32 = r at *
  obtain ⟨r1, r2, r3⟩ := r
  simp only at HT h32 ⊢
  go_enter Tryd.func58, Tryd.ntmps58
  go_upto_region 2 with fail
  change Code.wp _ _ _ _ ((w.alloc (.cells (u8s (List.replicate 32 0)).toArray 30)).alloc (.cells (u8s (List.replicate 32 0)).toArray 30))
  rw [← hw2]
  clear hw2
  obtain ⟨m, hm⟩ : ∃ m, m = r1.length := ⟨_, rfl⟩
  rw [← hm] at HT
  have HM := hid hm
  clear hm
  go_region_held3 (fun wx => True)
    (exact trivial)
    (first
      | (go_at_call 69
         refine (HT.out _ (HRA.out.drewN 1)).mono ?_
         rintro e w5 ⟨ao, co, a5, c5, rfl, hb5, hR5, hK5, hS5⟩
         have HB5 := hid hb5
         have HR5 := hid hR5
         have HK5 := hid (show Kept rb w2 w5 from ((Kept.refl rb w2).drewN 1).trans hK5)
         have HD5 := hid (show OwnD w5 (w.heap.size + 1) (List.replicate 32 0) from (HK5.out.block _ (lt_of_heap HD2.out) (by omega)).trans HD2.out)
         have HS5 := hid hS5
         clear hb5 hR5 hK5 hS5)
      | (have hd9 := HD5.out
         have hb9 := HB5.out
         refine step_copy_dig (by rfl) (.tmp 4) (.tmp 6) (by rfl) (w.heap.size + 1) hd9 (by rfl) ao m co (by rfl) r1 hb9 h32.out ?_
         intro w6 v6 hd6 hk6
         have HD6 := hid hd6
         have HK6 := hid hk6
         clear hd6 hk6))
  have HR5' := hid ((HK5.out.block w.heap.size (lt_of_heap HR2.out) (by omega)).trans HR2.out)
  have HR6 := hid ((HK6.out.block w.heap.size (lt_of_heap HR5'.out) (by omega)).trans HR5'.out)
  have hl32 := pad32_length r1
  have hof : ∀ fb, w.heap.size ≤ fb → ∀ ad, a5 = some ad → ad.block ≠ fb := fun fb hfb => HS5.out fb (fun ad e => by have := HLOW.out ad e; omega)
  have HK06 := hid (((Kept.of_below HB2.out).trans HK5.out).fresh HK6.out (by omega))
  have HR6r := hid (show RdAt w6 rb a5 c5 r2 r3 from ⟨(HK6.out.block rb (lt_of_heap HR5.out.at_) (by omega)).trans HR5.out.at_, HR5.out.bs.kept HK6.out (off_to (hof _ (by omega))), HR5.out.cap, HR5.out.nil, HR5.out.off⟩)
  have HOF := hid hof
  clear hof HR5' HR2 HD2 HT
  generalize hD : pad32 r1 = D at *
  have HDE := hid hD
  clear hD
  have hl32' : (u8s D).length = 32 := by simp [u8s, hl32]
  have HIF := hid (show (Tryd.prog.info? 30).map (·.size) = some (u8s D).length from by rw [hl32']; kernel_rfl)
  have HIF2 := hid (show (Tryd.prog.info? 30).map (·.size) = some (u8s D).toArray.size from by rw [List.size_toArray, hl32']; kernel_rfl)
  have hz : (u8s (List.replicate 32 0)).length = 32 := by unfold u8s; rw [List.length_map, List.length_replicate]
  have HOLD := hid (show (u8s (List.replicate 32 0)).toArray.size = (u8s D).toArray.size from by rw [List.size_toArray, List.size_toArray, hl32', hz])
  have HONE := hid (show (u8s D).toArray.all (·.oneCell') = true from all_oneCell_toArray (u8s_oneH _))
  clear hl32 hl32' hz
  go_wp2_with (first
    | (refine wpList_load_mid (by rfl) 30 (.tmp 3) (by rfl) (w.heap.size + 1) 0 (by rfl) (u8s D) _ (range_of_heapD HD6.out) Tryd.underlying30 rfl HIF.out ?_)
    | (refine wpList_store_row (by rfl) 30 (.tmp 2) (.tmp 8) (by rfl) w.heap.size _ (u8s D).toArray _ (by rfl) (by rfl) HR6.out HIF2.out HOLD.out HONE.out ?_
       intro w8 hw8 hk8))
  have hres : (loadVar 30 ⟨w.heap.size, 0, none⟩).run Tryd.prog w8 = .ok (.agg (u8s D).toArray) w8 := run_loadVar_row _ _ 30 30 _ (0, 0) _ hw8 Tryd.underlying30 rfl HIF2.out
  refine bodyPost_ret (v := .agg (u8s D).toArray) (results_at Tryd.results58 rfl hres) rfl ⟨by rw [HDE.out], a5, c5, ⟨(hk8.block rb (lt_of_heap HR6r.out.at_) (by omega)).trans HR6r.out.at_, HR6r.out.bs.kept hk8 (off_to (HOF.out _ (Nat.le_refl _))), HR6r.out.cap, HR6r.out.nil, HR6r.out.off⟩, HK06.out.fresh hk8 (Nat.le_refl _), HS5.out⟩
end Go.Proofs.YteaidpbopgjleaaDoor

namespace Go.Proofs.YteaidpbopgjleaaDoor
open Go Go.RowKit
set_option linter.unusedVariables false

/-- the Reader behind j digests -/
def rsJ (l : List Nat) : Nat → List Nat × Int
  | 0 => (l, 0)
  | j + 1 => (rtake (rsJ l j).1 (rsJ l j).2 32).2
/-- digest j -/
def dJ (l : List Nat) (j : Nat) : List Nat := pad32 (rtake (rsJ l j).1 (rsJ l j).2 32).1
theorem dJ_length (l : List Nat) (j : Nat) : (dJ l j).length = 32 := pad32_length _
theorem pad32_lt (l : List Nat) (h : ∀ i, l.getD i 0 < 256) : ∀ x ∈ pad32 l, x < 256 := fun x hx => by
  unfold pad32 at hx
  split at hx
  · obtain ⟨j, hj, rfl⟩ := List.getElem_of_mem hx
    have := h j
    rwa [List.getD_eq_getElem?_getD, List.getElem?_eq_getElem hj] at this
  · rw [List.eq_of_mem_replicate hx]; decide
theorem rtake_rest_lt (l : List Nat) (err n : Int) (hl : ∀ i, l.getD i 0 < 256) : ∀ i, (rtake l err n).2.1.getD i 0 < 256 := fun i => by
  unfold rtake
  split
  · exact hl i
  · split
    · exact hl i
    · split
      · exact hl i
      · simp only
        rw [List.getD_eq_getElem?_getD, List.getElem?_drop, ← List.getD_eq_getElem?_getD]
        exact hl _
theorem rsJ_lt (l : List Nat) (hl : ∀ i, l.getD i 0 < 256) : ∀ j i, (rsJ l j).1.getD i 0 < 256
  | 0, i => hl i
  | j + 1, i => rtake_rest_lt _ _ _ (rsJ_lt l hl j) i
theorem dJ_lt (l : List Nat) (hl : ∀ i, l.getD i 0 < 256) (j : Nat) : ∀ x ∈ dJ l j, x < 256 := pad32_lt _ (rtake_lt _ _ _ (rsJ_lt l hl j))
theorem rsJ_ok (l : List Nat) : ∀ j, 32 * j ≤ l.length → rsJ l j = (l.drop (32 * j), 0)
  | 0, _ => rfl
  | j + 1, h => by
    show (rtake (rsJ l j).1 (rsJ l j).2 32).2 = _
    rw [rsJ_ok l j (by omega)]
    unfold rtake
    rw [if_neg (by simp), if_neg (by omega), if_neg (by simp only [List.length_drop]; omega)]
    simp only [List.drop_drop]
    congr 2
theorem rsJ_bad (l : List Nat) : ∀ j, l.length < 32 * j → (rsJ l j).2 = 4
  | 0, h => by omega
  | j + 1, h => by
    show (rtake (rsJ l j).1 (rsJ l j).2 32).2.2 = _
    by_cases hj : 32 * j ≤ l.length
    · rw [rsJ_ok l j hj]
      unfold rtake
      rw [if_neg (by simp), if_neg (by omega), if_pos (by simp only [List.length_drop]; omega)]
    · have ih := rsJ_bad l j (by omega)
      unfold rtake
      rw [if_pos (by rw [ih]; decide)]
      exact ih
theorem dJ_ok (l : List Nat) (j : Nat) (h : 32 * (j + 1) ≤ l.length) : dJ l j = (l.drop (32 * j)).take 32 := by
  unfold dJ
  rw [rsJ_ok l j (by omega)]
  unfold rtake
  rw [if_neg (by simp), if_neg (by omega), if_neg (by simp only [List.length_drop]; omega)]
  unfold pad32
  rw [if_pos (by simp only [List.length_take, List.length_drop]; omega)]
  rfl
/-- what End says behind T + 1 digests -/
def finJ (l : List Nat) (T : Nat) : Int := if (rsJ l (T + 1)).2 = 0 ∧ 0 < (rsJ l (T + 1)).1.length then 5 else (rsJ l (T + 1)).2
theorem finJ_eq (l : List Nat) (T : Nat) (h : l.length = 32 * (T + 1)) : finJ l T = 0 := by
  unfold finJ
  rw [rsJ_ok l (T + 1) (by omega), if_neg (by simp only [List.length_drop]; omega)]
theorem finJ_short (l : List Nat) (T : Nat) (h : l.length < 32 * (T + 1)) : finJ l T = 4 := by
  unfold finJ
  rw [rsJ_bad l (T + 1) h, if_neg (by omega)]
theorem finJ_long (l : List Nat) (T : Nat) (h : 32 * (T + 1) < l.length) : finJ l T = 5 := by
  unfold finJ
  rw [rsJ_ok l (T + 1) (by omega), if_pos ⟨rfl, by simp only [List.length_drop]; omega⟩]

theorem rnum_one (x : Nat) (r : List Nat) : rnum (x :: r) 0 1 = x := by
  unfold rnum rtake
  rw [if_neg (by simp), if_neg (by omega), if_neg (by simp only [List.length_cons]; omega)]
  show 0 * 256 + x = x
  omega
theorem rtake_one (x : Nat) (r : List Nat) : (rtake (x :: r) 0 1).2 = (r, 0) := by
  unfold rtake
  rw [if_neg (by simp), if_neg (by omega), if_neg (by simp only [List.length_cons]; omega)]
  rfl
theorem rnum_two (x y : Nat) (r : List Nat) : rnum (x :: y :: r) 0 2 = x * 256 + y := by
  unfold rnum rtake
  rw [if_neg (by simp), if_neg (by omega), if_neg (by simp only [List.length_cons]; omega)]
  show (0 * 256 + x) * 256 + y = _
  omega
theorem rtake_two (x y : Nat) (r : List Nat) : (rtake (x :: y :: r) 0 2).2 = (r, 0) := by
  unfold rtake
  rw [if_neg (by simp), if_neg (by omega), if_neg (by simp only [List.length_cons]; omega)]
  rfl
theorem list7 (l : List Nat) (h : 7 ≤ l.length) : ∃ b0 b1 b2 b3 b4 b5 b6 r, l = b0 :: b1 :: b2 :: b3 :: b4 :: b5 :: b6 :: r := by
  match l, h with
  | b0 :: b1 :: b2 :: b3 :: b4 :: b5 :: b6 :: r, _ => exact ⟨b0, b1, b2, b3, b4, b5, b6, r, rfl⟩
theorem src_block {x y : Addr} (h : Src (some x) (some y)) : y.block = x.block := by
  apply Classical.byContradiction
  intro hne
  exact h y.block (fun ad e => by cases e; exact fun e2 => hne e2.symm) y rfl rfl
theorem src_off {x : Addr} {a : Option Addr} (h : Src (some x) a) {fb : Nat} (hf : x.block ≠ fb) : ∀ ad, a = some ad → ad.block ≠ fb := h fb (fun ad e => by cases e; exact hf)
theorem src_low {x : Addr} {a : Option Addr} (h : Src (some x) a) {s : Nat} (hs : x.block < s) : ∀ ad, a = some ad → ad.block < s := fun ad e => by
  subst e
  rw [src_block h]
  exact hs
theorem setCells_at (b : Nat) (t : TypeId) : ∀ (vs : List Value) (o : Nat) (w : World) (cs : List Value), w.heap[b]? = some (.cells cs.toArray t (0, 0)) → o + vs.length ≤ cs.length → (w.setCells b o vs).heap[b]? = some (.cells (cs.take o ++ vs ++ cs.drop (o + vs.length)).toArray t (0, 0))
  | [], o, w, cs, h, _ => by
    show w.heap[b]? = _
    rw [h, List.append_nil, List.length_nil, Nat.add_zero, List.take_append_drop]
  | v :: r, o, w, cs, h, hl => by
    simp only [List.length_cons] at hl
    have h1 := heap_set h o v
    rw [List.setIfInBounds_toArray] at h1
    have ih := setCells_at b t r (o + 1) (w.setCell ⟨b, o, none⟩ v) (cs.set o v) h1 (by rw [List.length_set]; omega)
    show ((w.setCell ⟨b, o, none⟩ v).setCells b (o + 1) r).heap[b]? = _
    rw [ih]
    congr 3
    rw [List.take_succ_eq_append_getElem (by rw [List.length_set]; omega), List.take_set, List.set_eq_of_length_le (by simp only [List.length_take]; omega), List.getElem_set_self, List.drop_set_of_lt (by omega), List.length_cons, show o + 1 + r.length = o + (r.length + 1) from by omega]
    simp
/-- a store of many cells into a block -/
theorem wpList_store_midD {P : Program} {ops : Array Oper} {rest : List Oper} {o : Oper} {a : Act} {w : World} {Q : Exit → Act → World → Prop} (hgd : o.guard = none) (ty : TypeId) (x y : Operand) (ho : o.op = .store ty x y)
    (b off : Nat) (cells : Array Value) (hx : a.eval x = .pointer (some ⟨b, off, none⟩)) (hy : a.eval y = .agg cells) (ht : w.there b off cells.size) (hi : (P.info? ty).map (·.size) = some cells.size) (h1 : cells.all (·.oneCell') = true)
    (h : wpList P ops Q rest (a.put o.dst undef) (w.setCells b off cells.toList)) : wpList P ops Q (o :: rest) a w :=
  wpList_plain hgd fun _ hK => wp_store_mid ty x y ho b off cells hx hy ht hi h1 (hK _ _ h)
/-- .. and what lies there then -/
theorem wpList_store_midK {P : Program} {ops : Array Oper} {rest : List Oper} {o : Oper} {a : Act} {w : World} {Q : Exit → Act → World → Prop} (hgd : o.guard = none) (ty : TypeId) (x y : Operand) (ho : o.op = .store ty x y)
    (b off : Nat) (vs cs : List Value) (T : TypeId) (hx : a.eval x = .pointer (some ⟨b, off, none⟩)) (hy : a.eval y = .agg vs.toArray) (hg : w.heap[b]? = some (.cells cs.toArray T (0, 0))) (hf : off + vs.length ≤ cs.length) (hi : (P.info? ty).map (·.size) = some vs.toArray.size) (h1 : vs.toArray.all (·.oneCell') = true)
    (h : ∀ w', w'.heap[b]? = some (.cells (cs.take off ++ vs ++ cs.drop (off + vs.length)).toArray T (0, 0)) → Kept b w w' → wpList P ops Q rest (a.put o.dst undef) w') : wpList P ops Q (o :: rest) a w :=
  wpList_store_midD hgd ty x y ho b off vs.toArray hx hy (by rw [List.size_toArray]; exact there_sub (there_of_heap hg List.size_toArray) off _ hf) hi h1
    (h _ (setCells_at b T vs off w cs hg hf) (setCells_kept b vs off w))
end Go.Proofs.YteaidpbopgjleaaDoor

namespace Go.Proofs.YteaidpbopgjleaaDoor
open Go Go.RowKit
set_option linter.unusedVariables false

theorem results_cell2D {fn : Func} {p u : Tmp} {ty : TypeId} (h : fn.results = #[.cell p ty, .tmp u]) (tmps : Array Value) (P : Program) (w : World) :
    (results fn tmps).run P w = ((asAddr (tmps.getD p undef)).run P w).andThen fun a w₁ => ((loadVar ty a).run P w₁).andThen fun v w₂ => .ok (.tuple #[v, tmps.getD u undef]) w₂ := by
  simp only [results, h]
  simp [Sem.run_bind, Result.andThen]
theorem results_at2D {fn : Func} {p u : Tmp} {ty : TypeId} (h : fn.results = #[.cell p ty, .tmp u]) {tmps : Array Value} {P : Program} {w : World} {ad : Addr} {v y : Value} (hp : tmps.getD p undef = .pointer (some ad)) (hv : (loadVar ty ad).run P w = .ok v w) (hy : tmps.getD u undef = y) :
    (results fn tmps).run P w = .ok (.tuple #[v, y]) w := by
  rw [results_cell2D h, hp, hy]
  simp [asAddr, hv, Result.andThen]
theorem mz_size : mz.size = 37 := by kernel_rfl
theorem info_man : (Tryd.prog.info? 62).map (·.size) = some mz.size := by rw [mz_size]; kernel_rfl
theorem mz_one : mz.all (·.oneCell') = true := mcells_one 0 0 0 0 _ none 0 0
/-- what DecodeManifest answers where it fails -/
def DcBad (w : World) (err : Int) (e : Ending) (w' : World) : Prop := e = .returned (.tuple #[.agg mz, .int .i64 err]) ∧ Below w.heap.size w w'
theorem dec_fail {fn : Func} {w w8 : World} {r0 : Nat} (hr : r0 = w.heap.size) (hw8 : w8.heap[r0]? = some (.cells mz 62 (0, 0))) : (loadVar 62 ⟨r0, 0, none⟩).run Tryd.prog w8 = .ok (.agg mz) w8 :=
  run_loadVar_row _ _ 62 62 _ (0, 0) _ hw8 Tryd.underlying62 rfl info_man

set_option maxRecDepth 100000 in
set_option maxHeartbeats 2000000 in
theorem dec_short (a : Option Addr) (n c : Nat) (w : World) (hn : n < 7) :
    Calls Tryd.prog 31 #[.slice a n c] w fun e w' => DcBad w 4 e w' := by
  have hI : (n : Int) < 7 := by omega
  obtain ⟨w1, hw1⟩ : ∃ w1, w1 = w.alloc (.cells mz 62) := ⟨_, rfl⟩
  have HB1 := hid (show Below w.heap.size w w1 from by rw [hw1]; exact (Below.refl _ _).alloc (Nat.le_refl _) _)
  have HR1 := hid (show w1.heap[w.heap.size]? = some (.cells mz 62 (0, 0)) from by rw [hw1]; exact heap_new _ _)
  go_enter Tryd.func31, Tryd.ntmps31
  go_upto_region 1 with fail
  change Code.wp _ _ _ _ (w.alloc (.cells mz 62))
  rw [← hw1]
  clear hw1
  go_wp2_with (refine wpList_store_row (by rfl) 62 (.tmp 2) (.tmp 13) (by rfl) w.heap.size _ mz _ (by rfl) (by first | rfl | kernel_rfl) HR1.out info_man rfl mz_one ?_
               intro w8 hw8 hk8)
  have hres := dec_fail (fn := Tryd.f31) rfl hw8
  refine bodyPost_ret (v := .tuple #[.agg mz, .int .i64 4]) (results_at2D Tryd.results31 rfl hres rfl) rfl ⟨rfl, HB1.out.trans (hk8.below HB1.out.size (Nat.le_refl _))⟩

def decErr (b0 b1 b2 b3 b4 b5 b6 : Nat) (r : List Nat) : Int := if ¬ (b0 = 77 ∧ b1 = 1) then 5 else if vnB b2 b3 b4 ((b5 * 256 + b6 : Nat) : Int) = false then 2 else finJ r b4
/-- what DecodeManifest answers -/
def DecTo (w : World) (b0 b1 b2 b3 b4 b5 b6 : Nat) (r : List Nat) (e : Ending) (w' : World) : Prop :=
  (decErr b0 b1 b2 b3 b4 b5 b6 r ≠ 0 → DcBad w (decErr b0 b1 b2 b3 b4 b5 b6 r) e w') ∧ (decErr b0 b1 b2 b3 b4 b5 b6 r = 0 → ∃ gd, w.heap.size ≤ gd ∧
    e = .returned (.tuple #[.agg (mcells b2 b3 b4 ((b5 * 256 + b6 : Nat) : Int) (dJ r 0) (.slice (some ⟨gd, 0, none⟩) b4 b4)).toArray, .int .i64 0]) ∧ DgAt w' (.slice (some ⟨gd, 0, none⟩) b4 b4) ((List.range b4).map fun j => dJ r (j + 1)) ∧ Below w.heap.size w w')
/-- what DecodeManifest keeps while it reads -/
structure DcT (w wr : World) (r0 rb : Nat) (x : Addr) (l : List Nat) (err : Int) : Prop where
  res : wr.heap[r0]? = some (.cells mz 62 (0, 0))
  rd : ∃ a c, RdAt wr rb a c l err ∧ Src (some x) a
  bel : Below w.heap.size w wr
  low : r0 = w.heap.size ∧ r0 < rb ∧ r0 < x.block ∧ x.block < wr.heap.size
theorem DcT.next {w wr w' : World} {r0 rb : Nat} {x : Addr} {l l' : List Nat} {err err' : Int} (T : DcT w wr r0 rb x l err) {a : Option Addr} (hS : Src (some x) a) (h : RdTo wr rb a (l', err') w') : DcT w w' r0 rb x l' err' := by
  obtain ⟨a', c', hR, hK, hS'⟩ := h
  obtain ⟨h1, h2, h3, h4⟩ := T.low
  exact ⟨(hK.block r0 (lt_of_heap T.res) (by omega)).trans T.res, ⟨a', c', hR, hS.trans hS'⟩, T.bel.trans (hK.below T.bel.size (by omega)), h1, h2, h3, Nat.lt_of_lt_of_le h4 hK.size⟩
theorem DcT.below {w wr w' : World} {r0 rb : Nat} {x : Addr} {l : List Nat} {err : Int} (T : DcT w wr r0 rb x l err) (h : Below wr.heap.size wr w') : DcT w w' r0 rb x l err := by
  obtain ⟨a', c', hR, hS⟩ := T.rd
  obtain ⟨h1, h2, h3, h4⟩ := T.low
  exact ⟨(h.block r0 (lt_of_heap T.res)).trans T.res, ⟨a', c', hR.below h, hS⟩, T.bel.trans (h.mono T.bel.size), h1, h2, h3, Nat.lt_of_lt_of_le h4 h.size⟩
/-- a write into a block that is none of these -/
theorem DcT.kept {w wr w' : World} {r0 rb k : Nat} {x : Addr} {l : List Nat} {err : Int} (T : DcT w wr r0 rb x l err) (h : Kept k wr w') (h0 : k ≠ r0) (h1 : k ≠ rb) (h2 : x.block ≠ k) (hk : w.heap.size ≤ k) : DcT w w' r0 rb x l err := by
  obtain ⟨a', c', hR, hS⟩ := T.rd
  obtain ⟨q1, q2, q3, q4⟩ := T.low
  exact ⟨(h.block r0 (lt_of_heap T.res) (fun e => h0 e.symm)).trans T.res, ⟨a', c', ⟨(h.block rb (lt_of_heap hR.at_) (fun e => h1 e.symm)).trans hR.at_, hR.bs.kept h (off_to (src_off hS h2)), hR.cap, hR.nil, hR.off⟩, hS⟩, T.bel.trans (h.below T.bel.size hk), q1, q2, q3, Nat.lt_of_lt_of_le q4 h.size⟩

theorem man_od (k n t s : Int) (z D : List Nat) (v : Value) (hz : z.length = 32) (hD : (u8s D).length = 32) : (mcells k n t s z v).take 4 ++ u8s D ++ (mcells k n t s z v).drop (4 + (u8s D).length) = mcells k n t s D v := by
  have h1 : (mcells k n t s z v).take 4 = [.int .i64 k, .int .i64 n, .int .i64 t, .int .i64 s] := rfl
  have h2 : (mcells k n t s z v).drop (4 + (u8s D).length) = [v] := by
    rw [hD]
    unfold mcells
    exact List.drop_left' (by simp [u8s, hz])
  rw [h1, h2]
  rfl
theorem man_row {w : World} {b : Nat} {k n t s : Int} {od : List Nat} {v : Value} (h : ManAt w b k n t s od v) (hod : od.length = 32) (v' : Value) : ManAt (w.setCell ⟨b, 36, none⟩ v') b k n t s od v' := by
  have h1 := heap_set h 36 v'
  unfold ManAt
  rw [h1, List.setIfInBounds_toArray]
  congr 3
  unfold mcells
  rw [List.set_append_right _ _ (by simp [u8s, hod])]
  simp [u8s, hod]
def endE (l : List Nat) (err : Int) : Int := if err = 0 ∧ 0 < l.length then 5 else err
set_option maxRecDepth 100000 in
theorem rEnd_any (rb : Nat) (a : Option Addr) (c : Nat) (l : List Nat) (err : Int) (w : World) (R : RdAt w rb a c l err) :
    Calls Tryd.prog 21 #[.pointer (some ⟨rb, 0, none⟩)] w fun e w' => e = .returned (.int .i64 (endE l err)) ∧ w = w' := by
  have H1 := hid (Err_any rb a c l err w R)
  have H2 := hid (Rest_any rb a c l err w R)
  clear R
  by_cases he : err = 0
  · subst he
    by_cases hl : 0 < l.length
    · have hE : endE l 0 = 5 := by unfold endE; rw [if_pos ⟨rfl, hl⟩]
      have hI : 0 < ((l.length : Nat) : Int) := by omega
      rw [hE]
      generalize l.length = m at *
      clear hE hl
      go_enter Tryd.func21, Tryd.ntmps21
      go_wp2_with fail
      refine H1.out.mono ?_
      rintro e w2 ⟨rfl, rfl⟩
      go_wp2_with fail
      refine H2.out.mono ?_
      rintro e w2 ⟨rfl, rfl⟩
      go_wp2
      go_ret
      exact ⟨rfl, rfl⟩
    · have hE : endE l 0 = 0 := by unfold endE; rw [if_neg (fun h => hl h.2)]
      have hI : ¬ 0 < ((l.length : Nat) : Int) := by omega
      rw [hE]
      generalize l.length = m at *
      clear hE hl
      go_enter Tryd.func21, Tryd.ntmps21
      go_wp2_with fail
      refine H1.out.mono ?_
      rintro e w2 ⟨rfl, rfl⟩
      go_wp2_with fail
      refine H2.out.mono ?_
      rintro e w2 ⟨rfl, rfl⟩
      go_wp2_with fail
      refine H1.out.mono ?_
      rintro e w2 ⟨rfl, rfl⟩
      go_wp2
      go_ret
      exact ⟨rfl, rfl⟩
  · have hE : endE l err = err := by unfold endE; rw [if_neg (fun h => he h.1)]
    have hI : (err == 0) = false := by rw [beq_eq_false_iff_ne]; exact he
    rw [hE]
    clear hE he
    go_enter Tryd.func21, Tryd.ntmps21
    go_wp2_with fail
    refine H1.out.mono ?_
    rintro e w2 ⟨rfl, rfl⟩
    go_wp2_with fail
    refine H1.out.mono ?_
    rintro e w2 ⟨rfl, rfl⟩
    go_wp2
    go_ret
    exact ⟨rfl, rfl⟩
/-- what the loop of DecodeManifest keeps -/
structure DcL (w wr : World) (r0 rb mb gd : Nat) (x : Addr) (r : List Nat) (k n t s : Nat) (D0 : List Nat) (i : Nat) : Prop where
  t_ : DcT w wr r0 rb x (rsJ r (i + 1)).1 (rsJ r (i + 1)).2
  man : ManAt wr mb k n t s D0 (.slice (some ⟨gd, 0, none⟩) t t)
  rng : ∀ j, j < i → wr.rangeAt gd (j * 32) (u8s (dJ r (j + 1)))
  th : wr.there gd 0 (t * 32)
  gdl : gd < wr.heap.size
  ne : gd ≠ mb ∧ gd ≠ rb ∧ gd ≠ r0 ∧ gd ≠ x.block ∧ mb ≠ rb ∧ mb ≠ r0
  low : w.heap.size ≤ gd
theorem DcL.store {w wr w5 : World} {r0 rb mb gd : Nat} {x : Addr} {r : List Nat} {k n t s : Nat} {D0 : List Nat} {i : Nat} (h : DcL w wr r0 rb mb gd x r k n t s D0 i) (hi : i < t) {a : Option Addr} (hS : Src (some x) a) (hR : RdTo wr rb a (rsJ r (i + 2)) w5) : DcL w (w5.setCells gd (i * 32) (u8s (dJ r (i + 1)))) r0 rb mb gd x r k n t s D0 (i + 1) := by
  obtain ⟨n1, n2, n3, n4, n5, n6⟩ := h.ne
  have hk : Kept rb wr w5 := by obtain ⟨_, _, _, hk, _⟩ := hR; exact hk
  have T5 : DcT w w5 r0 rb x (rsJ r (i + 2)).1 (rsJ r (i + 2)).2 := h.t_.next hS hR
  have hd : (u8s (dJ r (i + 1))).length = 32 := by simp [u8s, dJ_length]
  have hb : ∀ q, q ≠ gd → (w5.setCells gd (i * 32) (u8s (dJ r (i + 1)))).heap[q]? = w5.heap[q]? := fun q hq => setCells_heap gd _ _ _ q hq
  have hth := there_same h.th (hk.block gd h.gdl n2)
  refine ⟨T5.kept (setCells_kept gd _ _ _) n3 n2 (fun e => n4 e.symm) h.low, (hb mb (fun e => n1 e.symm)).trans ((hk.block mb (lt_of_heap h.man) n5).trans h.man), fun j hj => ?_, World.there_setCells hth _ _ _, by rw [setCells_size]; exact Nat.lt_of_lt_of_le h.gdl hk.size, h.ne, h.low⟩
  by_cases e : j = i
  · subst e
    exact World.rangeAt_setCells_same _ _ _ _ (there_sub hth _ _ (by rw [hd]; omega))
  · exact World.rangeAt_setCells_apart (range_same (h.rng j (by omega)) (hk.block gd h.gdl n2)) _ _ _ (.inr (.inl (by
      have : (u8s (dJ r (j + 1))).length = 32 := by simp [u8s, dJ_length]
      omega)))

set_option maxRecDepth 100000 in
set_option maxHeartbeats 4000000 in
theorem dec_long (a : Option Addr) (n c b0 b1 b2 b3 b4 b5 b6 : Nat) (r : List Nat) (w : World) (hb : Bs w (.slice a n c) (b0 :: b1 :: b2 :: b3 :: b4 :: b5 :: b6 :: r)) (hnil : a = none → c = 0) (hn : n ≤ 1000000000) :
    Calls Tryd.prog 31 #[.slice a n c] w fun e w' => DecTo w b0 b1 b2 b3 b4 b5 b6 r e w' := by
  have hn7 : ¬ ((n : Int) < 7) := by have := hb.len; simp only [List.length_cons] at this; omega
  have HLB := hid hb.lt
  obtain ⟨w1, hw1⟩ : ∃ w1, w1 = w.alloc (.cells mz 62) := ⟨_, rfl⟩
  have HB1 := hid (show Below w.heap.size w w1 from by rw [hw1]; exact (Below.refl _ _).alloc (Nat.le_refl _) _)
  have HR1 := hid (show w1.heap[w.heap.size]? = some (.cells mz 62 (0, 0)) from by rw [hw1]; exact heap_new _ _)
  have hs1 : w.heap.size < w1.heap.size := lt_of_heap HR1.out
  have HNR := hid (NewReader_any a n c _ w1 (hb.below HB1.out) hnil (by omega))
  have hb0 := hb.lt 0
  have hb1 := hb.lt 1
  have hb2 := hb.lt 2
  have hb3 := hb.lt 3
  have hb4 := hb.lt 4
  have hb5 := hb.lt 5
  have hb6 := hb.lt 6
  simp only [List.getD_cons_zero, List.getD_cons_succ] at hb0 hb1 hb2 hb3 hb4 hb5 hb6
  have HLR := hid (show ∀ i, r.getD i 0 < 256 from fun i => by have h := hb.lt (i + 7); simpa using h)
  clear hb hnil
  go_enter Tryd.func31, Tryd.ntmps31
  go_upto_region 1 with fail
  change Code.wp _ _ _ _ (w.alloc (.cells mz 62))
  rw [← hw1]
  clear hw1
  go_wp2_with fail
  refine HNR.out.mono ?_
  clear HNR
  rintro e w3 ⟨rb, a3, c3, rfl, hrb, hR3, hfr, hb3'⟩
  obtain ⟨x, hx⟩ : ∃ x, a3 = some x := by
    rcases hR3.bs.addr with ⟨h, _⟩ | ⟨_, b, o, c', hv⟩
    · cases h
    · simp only [Value.slice.injEq] at hv; exact ⟨_, hv.1⟩
  have hxlt : x.block < w3.heap.size := by
    rcases hR3.bs.addr with ⟨h, _⟩ | ⟨_, b, o, c', hv⟩
    · cases h
    · simp only [Value.slice.injEq] at hv
      rw [hx] at hv
      have e := hv.1
      cases e
      have h9 := hR3.bs
      rw [hx] at h9
      exact World.block_lt_of_cell? _ _ (h9.cell 0 (by simp))
  have T3 := hid (show DcT w w3 w.heap.size rb x (b0 :: b1 :: b2 :: b3 :: b4 :: b5 :: b6 :: r) 0 from ⟨(hb3'.block _ hs1).trans HR1.out, ⟨a3, c3, hR3, by rw [hx]; exact Src.refl _⟩, HB1.out.trans (hb3'.mono HB1.out.size), rfl, by omega, by have := hfr x hx; omega, hxlt⟩)
  clear hR3 hfr hb3' hx hxlt hrb HB1 HR1
  obtain ⟨r0, hr0⟩ : ∃ y, y = w.heap.size := ⟨_, rfl⟩
  rw [← hr0] at T3 ⊢
  have HR0 := hid hr0
  clear hr0
  -- the mark and the version
  obtain ⟨a4, c4, hR4, hS4⟩ := T3.out.rd
  have HQ := hid (rU8 rb a4 c4 _ 0 w3 hR4)
  rw [rnum_one, rtake_one] at HQ
  clear hR4
  go_wp2_with fail
  refine HQ.out.mono ?_
  clear HQ
  rintro e w4 ⟨rfl, hr⟩
  have T4 := hid (T3.out.next hS4 hr)
  clear hr hS4 T3
  obtain ⟨a5, c5, hR5, hS5⟩ := T4.out.rd
  have HQ := hid (rU8 rb a5 c5 _ 0 w4 hR5)
  rw [rnum_one, rtake_one] at HQ
  clear hR5
  go_wp2_with fail
  refine HQ.out.mono ?_
  clear HQ
  rintro e w5 ⟨rfl, hr⟩
  have T5 := hid (T4.out.next hS5 hr)
  clear hr hS5 T4
  have HBAD := hid (fun (err : Int) (wx w8 : World) (l : List Nat) (er : Int) (T : DcT w wx r0 rb x l er) (hw8 : w8.heap[r0]? = some (.cells mz 62 (0, 0))) (hk8 : Kept r0 wx w8) (he : decErr b0 b1 b2 b3 b4 b5 b6 r = err) (h0 : err ≠ 0) =>
    (show DecTo w b0 b1 b2 b3 b4 b5 b6 r (.returned (.tuple #[.agg mz, .int .i64 err])) w8 from ⟨fun _ => by rw [he]; exact ⟨rfl, T.bel.trans (hk8.below T.bel.size (by rw [HR0.out]; exact Nat.le_refl _))⟩, fun h => absurd (he.symm.trans h) h0⟩))
  by_cases hm0 : b0 = 77
  case neg => as_aux_lemma =>
    have e0 : (((b0 : Nat) : Int) != 77) = true := by rw [bne_iff_ne]; omega
    have HE := hid (show decErr b0 b1 b2 b3 b4 b5 b6 r = 5 from by unfold decErr; rw [if_pos (fun h => hm0 h.1)])
    clear hm0
    go_wp2_with (refine wpList_store_row (by rfl) 62 (.tmp 2) (.tmp 26) (by rfl) r0 _ mz _ (by rfl) (by first | rfl | kernel_rfl) T5.out.res info_man rfl mz_one ?_
                 intro w8 hw8 hk8)
    have hres := run_loadVar_row (P := Tryd.prog) _ _ 62 62 _ (0, 0) _ hw8 Tryd.underlying62 rfl info_man
    exact bodyPost_ret (v := .tuple #[.agg mz, .int .i64 5]) (results_at2D Tryd.results31 rfl hres rfl) rfl (HBAD.out 5 w5 w8 _ _ T5.out hw8 hk8 HE.out (by decide))
  by_cases hm1 : b1 = 1
  case neg => as_aux_lemma =>
    have e0 : (((b0 : Nat) : Int) != 77) = false := by rw [hm0]; rfl
    have e1 : (((b1 : Nat) : Int) != 1) = true := by rw [bne_iff_ne]; omega
    have HE := hid (show decErr b0 b1 b2 b3 b4 b5 b6 r = 5 from by unfold decErr; rw [if_pos (fun h => hm1 h.2)])
    clear hm0 hm1
    go_wp2_with (refine wpList_store_row (by rfl) 62 (.tmp 2) (.tmp 26) (by rfl) r0 _ mz _ (by rfl) (by first | rfl | kernel_rfl) T5.out.res info_man rfl mz_one ?_
                 intro w8 hw8 hk8)
    have hres := run_loadVar_row (P := Tryd.prog) _ _ 62 62 _ (0, 0) _ hw8 Tryd.underlying62 rfl info_man
    exact bodyPost_ret (v := .tuple #[.agg mz, .int .i64 5]) (results_at2D Tryd.results31 rfl hres rfl) rfl (HBAD.out 5 w5 w8 _ _ T5.out hw8 hk8 HE.out (by decide))
  have e0 : (((b0 : Nat) : Int) != 77) = false := by rw [hm0]; rfl
  have e1 : (((b1 : Nat) : Int) != 1) = false := by rw [hm1]; rfl
  have HE5 := hid (show decErr b0 b1 b2 b3 b4 b5 b6 r = if vnB b2 b3 b4 ((b5 * 256 + b6 : Nat) : Int) = false then 2 else finJ r b4 from by unfold decErr; rw [if_neg (fun h => h ⟨hm0, hm1⟩)])
  clear hm0 hm1
  -- the numbers
  obtain ⟨S, hS⟩ : ∃ S, S = b5 * 256 + b6 := ⟨_, rfl⟩
  have hSl : S < 65536 := by omega
  have t2 : IntKind.i64.wrap (b2 : Int) = (b2 : Int) := by rw [IntKind.wrap_i64]; omega
  have t3 : IntKind.i64.wrap (b3 : Int) = (b3 : Int) := by rw [IntKind.wrap_i64]; omega
  have t4 : IntKind.i64.wrap (b4 : Int) = (b4 : Int) := by rw [IntKind.wrap_i64]; omega
  have tS : IntKind.i64.wrap (S : Int) = (S : Int) := by rw [IntKind.wrap_i64]; omega
  rw [← hS] at HE5
  have HS := hid hS
  obtain ⟨a6, c6, hR6, hS6⟩ := T5.out.rd
  have HQ := hid (rU8 rb a6 c6 _ 0 w5 hR6)
  rw [rnum_one, rtake_one] at HQ
  clear hR6 hS
  go_wp2_with fail
  refine HQ.out.mono ?_
  clear HQ
  rintro e w6 ⟨rfl, hr⟩
  have T6 := hid (T5.out.next hS6 hr)
  clear hr hS6 T5
  obtain ⟨a7, c7, hR7, hS7⟩ := T6.out.rd
  have HQ := hid (rU8 rb a7 c7 _ 0 w6 hR7)
  rw [rnum_one, rtake_one] at HQ
  clear hR7
  go_wp2_with fail
  refine HQ.out.mono ?_
  clear HQ
  rintro e w7 ⟨rfl, hr⟩
  have T7 := hid (T6.out.next hS7 hr)
  clear hr hS7 T6
  obtain ⟨a8, c8, hR8, hS8⟩ := T7.out.rd
  have HQ := hid (rU8 rb a8 c8 _ 0 w7 hR8)
  rw [rnum_one, rtake_one] at HQ
  clear hR8
  go_wp2_with fail
  refine HQ.out.mono ?_
  clear HQ
  rintro e w8 ⟨rfl, hr⟩
  have T8 := hid (T7.out.next hS8 hr)
  clear hr hS8 T7
  obtain ⟨a9, c9, hR9, hS9⟩ := T8.out.rd
  have HQ := hid (rU16 rb a9 c9 _ 0 w8 hR9)
  rw [rnum_two, rtake_two, ← HS.out] at HQ
  clear hR9
  go_wp2_with fail
  refine HQ.out.mono ?_
  clear HQ
  rintro e w9 ⟨rfl, hr⟩
  have T9 := hid (T8.out.next hS9 hr)
  clear hr hS9 T8
  have hz32 : (List.replicate 32 0 : List Nat).length = 32 := List.length_replicate
  have HML := hid (mcells_length (b2 : Int) (b3 : Int) (b4 : Int) (S : Int) (List.replicate 32 0) (.slice none 0 0) hz32)
  have HON := hid (mcells_one (b2 : Int) (b3 : Int) (b4 : Int) (S : Int) (List.replicate 32 0) none 0 0)
  have hbm : Tryd.prog.built 62 [(0, .int .i64 (b2 : Int)), (1, .int .i64 (b3 : Int)), (2, .int .i64 (b4 : Int)), (3, .int .i64 (S : Int))] = some (mcells (b2 : Int) (b3 : Int) (b4 : Int) (S : Int) (List.replicate 32 0) (.slice none 0 0)).toArray := by kernel_rfl
  have HV := hid (fun wx => validNumbers_any (b2 : Int) (b3 : Int) (b4 : Int) (S : Int) (List.replicate 32 0) (.slice none 0 0) hz32 wx)
  generalize hM : mcells (b2 : Int) (b3 : Int) (b4 : Int) (S : Int) (List.replicate 32 0) (.slice none 0 0) = M at *
  have HMM := hid hM
  have HIF := hid (show (Tryd.prog.info? 62).map (·.size) = some M.length from by rw [HML.out]; kernel_rfl)
  have HIF2 := hid (show (Tryd.prog.info? 62).map (·.size) = some M.toArray.size from by rw [List.size_toArray, HML.out]; kernel_rfl)
  have HSZ := hid (show mz.size = M.toArray.size from by rw [mz_size]; rw [List.size_toArray, HML.out])
  have HNW := hid (show (w9.alloc (.cells mz 62)).heap[w9.heap.size]? = some (.cells mz 62 (0, 0)) from heap_new _ _)
  clear hM
  go_wp2_with (first
    | (refine wpList_store_row (by rfl) 62 (.tmp 7) (.tmp 39) (by rfl) w9.heap.size mz M.toArray 62 (by rfl) (by first | rfl | (rw [← HMM.out]; kernel_rfl)) HNW.out HIF2.out HSZ.out HON.out ?_
       intro wa hwa hka)
    | (refine wpList_load_mid (by rfl) 62 (.tmp 7) (by rfl) w9.heap.size 0 (by rfl) M _ (range_of_heapD hwa) Tryd.underlying62 rfl HIF.out ?_))
  have TA := hid (show DcT w wa r0 rb x r 0 from (T9.out.below ((Below.refl _ _).alloc (Nat.le_refl _) _)).kept hka (by have := lt_of_heap T9.out.res; omega) (by obtain ⟨_, _, h, _⟩ := T9.out.rd; have := lt_of_heap h.at_; omega) (by have := T9.out.low; omega) T9.out.bel.size)
  have hmbw : w.heap.size ≤ w9.heap.size := T9.out.bel.size
  have hmb1 : r0 < w9.heap.size ∧ rb < w9.heap.size ∧ x.block < w9.heap.size := ⟨lt_of_heap T9.out.res, by obtain ⟨_, _, h, _⟩ := T9.out.rd; exact lt_of_heap h.at_, T9.out.low.2.2.2⟩
  have HMA := hid hwa
  obtain ⟨mb, hmb⟩ : ∃ y, y = w9.heap.size := ⟨_, rfl⟩
  rw [← hmb] at HMA hmbw hmb1 ⊢
  clear hwa hka hmb HNW T9
  refine (HV.out wa).mono ?_
  rintro e wb ⟨rfl, hbb⟩
  have HMB := hid ((hbb.block mb (lt_of_heap HMA.out)).trans HMA.out)
  have TB := hid (TA.out.below hbb)
  clear hbb TA HMA HV
  cases hvn : vnB (b2 : Int) (b3 : Int) (b4 : Int) (S : Int) with
  | false => as_aux_lemma =>
    have HE := hid (show decErr b0 b1 b2 b3 b4 b5 b6 r = 2 from by rw [HE5.out, if_pos hvn])
    clear hvn
    go_wp2_with (refine wpList_store_row (by rfl) 62 (.tmp 2) (.tmp 43) (by rfl) r0 _ mz _ (by rfl) (by first | rfl | kernel_rfl) TB.out.res info_man rfl mz_one ?_
                 intro w8 hw8 hk8)
    have hres := run_loadVar_row (P := Tryd.prog) _ _ 62 62 _ (0, 0) _ hw8 Tryd.underlying62 rfl info_man
    exact bodyPost_ret (v := .tuple #[.agg mz, .int .i64 2]) (results_at2D Tryd.results31 rfl hres rfl) rfl (HBAD.out 2 wb w8 _ _ TB.out hw8 hk8 HE.out (by decide))
  | true =>
  have hnum : 1 ≤ b2 ∧ b2 ≤ b3 ∧ b3 ≤ b4 ∧ b4 ≤ 255 ∧ S ≤ 8192 := by
    unfold vnB vcB at hvn
    simp only [Bool.and_eq_true, decide_eq_true_eq] at hvn
    omega
  have HE6 := hid (show decErr b0 b1 b2 b3 b4 b5 b6 r = finJ r b4 from by rw [HE5.out, hvn, if_neg (by decide)])
  clear hvn HE5
  obtain ⟨ac, cc, hRc, hSc⟩ := TB.out.rd
  have HQ := hid (show Calls Tryd.prog 58 #[.pointer (some ⟨rb, 0, none⟩)] wb (fun e w' => e = .returned (.agg (u8s (dJ r 0)).toArray) ∧ RdTo wb rb ac (rsJ r 1) w') from readDigest_any rb ac cc r 0 wb hRc (src_low hSc TB.out.low.2.2.2))
  have hd32 := dJ_length r 0
  have HDL := hid (dJ_lt r HLR.out 0)
  generalize hD0 : dJ r 0 = D0 at *
  have HD0 := hid hD0
  have hd32' : (u8s D0).length = 32 := by simp [u8s, hd32]
  have HIFD := hid (show (Tryd.prog.info? 30).map (·.size) = some (u8s D0).toArray.size from by rw [List.size_toArray, hd32']; kernel_rfl)
  have HOND := hid (show (u8s D0).toArray.all (·.oneCell') = true from all_oneCell_toArray (u8s_oneH _))
  have HD32 := hid hd32
  have HD32' := hid hd32'
  clear hRc hD0 hd32 hd32'
  go_wp2_with fail
  refine HQ.out.mono ?_
  clear HQ
  rintro e wc ⟨rfl, hr⟩
  have HMC := hid (show wc.heap[mb]? = some (.cells M.toArray 62 (0, 0)) from by
    obtain ⟨_, _, _, hk, _⟩ := hr
    exact (hk.block mb (lt_of_heap HMB.out) (by omega)).trans HMB.out)
  have TC := hid (show DcT w wc r0 rb x (rsJ r 1).1 (rsJ r 1).2 from TB.out.next hSc hr)
  clear hr hSc TB HMB
  have hmbl : mb < wc.heap.size := lt_of_heap HMC.out
  have HMF := hid (fun (wy : World) (h : wy.heap[mb]? = some (.cells (M.take 4 ++ u8s D0 ++ M.drop (4 + (u8s D0).length)).toArray 62 (0, 0))) => (show ManAt wy mb b2 b3 b4 S D0 (.slice none 0 0) from by
    rw [← HMM.out, man_od _ _ _ _ _ _ _ hz32 HD32'.out] at h
    exact h))
  have mk := fun wx => mk_d b4 (by omega) wx
  go_wp2_with (refine wpList_store_midK (by rfl) 30 (.tmp 46) (.tmp 45) (by rfl) mb 4 (u8s D0) M 62 (by rfl) (by rfl) HMC.out (by rw [HD32'.out, HML.out]; omega) HIFD.out HOND.out ?_
               intro wd hwd hkd
               have HMD := hid (HMF.out wd hwd)
               have hmbd := lt_of_heap HMD.out
               have d2 := (HMD.out.c HD32.out).2.2.1
               have d36 := (HMD.out.c HD32.out).2.2.2.2
               have f36 := free_of_heap HMD.out 36
               have HKD := hid hkd
               clear hwd hkd)
  have TD := hid (show DcT w wd r0 rb x (rsJ r 1).1 (rsJ r 1).2 from TC.out.kept HKD.out (by omega) (by omega) (by omega) hmbw)
  obtain ⟨gd, hgd⟩ : ∃ y, y = wd.heap.size := ⟨_, rfl⟩
  obtain ⟨we, hwe⟩ : ∃ y, y = (wd.setCell ⟨mb, 36, none⟩ (.slice (some ⟨gd, 0, none⟩) b4 b4)).alloc (drow b4) := ⟨_, rfl⟩
  have hsz1 : (wd.setCell ⟨mb, 36, none⟩ (.slice (some ⟨gd, 0, none⟩) b4 b4)).heap.size = gd := by rw [hgd]; simp [World.setCell]
  have hLE : DcL w we r0 rb mb gd x r b2 b3 b4 S D0 0 := by
    have h1 : DcT w (wd.setCell ⟨mb, 36, none⟩ (.slice (some ⟨gd, 0, none⟩) b4 b4)) r0 rb x (rsJ r 1).1 (rsJ r 1).2 := TD.out.kept ((Kept.refl mb wd).setCell (p := ⟨mb, 36, none⟩) rfl _) (by omega) (by omega) (by omega) hmbw
    have h2 := man_row HMD.out HD32.out (.slice (some ⟨gd, 0, none⟩) b4 b4)
    have hl := HKD.out.size
    refine ⟨?_, ?_, fun j hj => absurd hj (Nat.not_lt_zero _), ?_, ?_, ⟨by omega, by omega, by omega, by omega, by omega, by omega⟩, by have := TD.out.bel.size; omega⟩
    · rw [hwe]; exact h1.below ((Below.refl _ _).alloc (Nat.le_refl _) _)
    · rw [hwe]
      exact (heap_alloc_old _ _ (lt_of_heap h2)).trans h2
    · rw [hwe]
      have h := there_drow (wd.setCell ⟨mb, 36, none⟩ (.slice (some ⟨gd, 0, none⟩) b4 b4)) b4
      rw [hsz1] at h
      exact h
    · rw [hwe]; simp [hsz1]
  have HLE := hid hLE
  rw [← hgd, ← hwe]
  clear hLE hwe hsz1 hgd TD HMD HKD TC HMC d2 d36 f36 mk hmbd HMF
  obtain ⟨hn1, hn2, hn3, hn4, hn5⟩ := hnum
  go_loopw [53] (fun iv wr => ∃ i : Nat, i ≤ b4 ∧ iv = .int .i64 i ∧ Hid (DcL w wr r0 rb mb gd x r b2 b3 b4 S D0 i)) (fun iv _ => b4 - (intOf iv).toNat)
  case atStart => exact ⟨0, by omega, rfl, HLE⟩
  case round =>
    clear HLE
    obtain ⟨i, hi, rfl, HL⟩ := hrel
    by_cases hit : i < b4
    case pos => as_aux_lemma =>
      have hI : (i : Int) < (b4 : Int) := by omega
      obtain ⟨a1, c1, hR, hS⟩ := HL.out.t_.rd
      have hlow := src_low hS HL.out.t_.low.2.2.2
      have d36 : wr.cell? ⟨mb, 36, none⟩ = some (.slice (some ⟨gd, 0, none⟩) b4 b4) := (HL.out.man.c HD32.out).2.2.2.2
      have HRA := hid hR
      have HLOW := hid hlow
      have HS1 := hid hS
      have HPD := hid (fun (wx : World) (R : RdAt wx rb a1 c1 (rsJ r (i + 1)).1 (rsJ r (i + 1)).2) (h : ∀ ad, a1 = some ad → ad.block < wx.heap.size) => (show Calls Tryd.prog 58 #[.pointer (some ⟨rb, 0, none⟩)] wx (fun e w' => e = .returned (.agg (u8s (dJ r (i + 1))).toArray) ∧ RdTo wx rb a1 (rsJ r (i + 2)) w') from readDigest_any rb a1 c1 _ _ wx R h))
      have K0 := hid (show wr.drew.cell? ⟨mb, 36, none⟩ = some (.slice (some ⟨gd, 0, none⟩) b4 b4) from d36)
      have HKE := hid (fun (wx : World) (k : Kept rb wr wx) => (show wx.cell? ⟨mb, 36, none⟩ = some (.slice (some ⟨gd, 0, none⟩) b4 b4) from (World.cell?_of_block (a := ⟨mb, 36, none⟩) (k.block mb (lt_of_heap HL.out.man) HL.out.ne.2.2.2.2.1)).trans d36))
      have HKS := hid (fun (wx : World) (k : Kept rb wr wx) (cs : List Value) => (show (wx.setCells gd (i * 32) cs).cell? ⟨mb, 36, none⟩ = some (.slice (some ⟨gd, 0, none⟩) b4 b4) from (World.cell?_of_block (a := ⟨mb, 36, none⟩) (setCells_heap gd cs _ wx mb (fun e => HL.out.ne.1 e.symm))).trans (HKE.out wx k)))
      have hE32 := dJ_length r (i + 1)
      have HST := hid (fun (w5 : World) (h : RdTo wr rb a1 (rsJ r (i + 2)) w5) => HL.out.store hit HS1.out h)
      have HTH := hid (fun (wx : World) (k : Kept rb wr wx) => (show wx.there gd (i * 32) (u8s (dJ r (i + 1))).length from there_sub (there_same HL.out.th (k.block gd HL.out.gdl HL.out.ne.2.1)) _ _ (by rw [show (u8s (dJ r (i + 1))).length = 32 from by simp [u8s, hE32]]; omega)))
      generalize dJ r (i + 1) = E at *
      have e1 : ∀ v, v ∈ u8s E → v.oneCell' = true := u8s_oneH E
      have hE32' : (u8s E).length = 32 := by simp [u8s, hE32]
      have e3 : Option.map (fun x => x.size) (Tryd.prog.info? 30) = some (u8s E).length := by rw [hE32']; kernel_rfl
      clear hR hS hlow hE32 hE32'
      go_wp2
      go_region_held3 (fun w' => w'.cell? ⟨mb, 36, none⟩ = some (.slice (some ⟨gd, 0, none⟩) b4 b4))
        (first | exact K0.out | exact K1.out | exact K2.out _)
        (first | (go_at_call 58
                  refine (HPD.out _ (HRA.out.drewN 1) (by exact HLOW.out)).mono ?_
                  rintro e w5 ⟨rfl, hr5⟩
                  have hr6 : RdTo wr rb a1 (rsJ r (i + 2)) w5 := hr5.before ((Kept.refl rb wr).drewN 1)
                  have hk6 : Kept rb wr w5 := by obtain ⟨_, _, _, hk, _⟩ := hr6; exact hk
                  have K1 := hid (HKE.out w5 hk6)
                  have K2 := hid (HKS.out w5 hk6)
                  have e2 := HTH.out w5 hk6))
      all_goals
        have HL2 := hid (HST.out _ hr6)
        clear e1 e2 e3 hr5 hr6 hk6
        go_wp2
        exact ⟨⟨i + 1, by omega, by go_num, HL2⟩, by simp [intOf]; omega⟩
    case neg => as_aux_lemma =>
      obtain rfl : i = b4 := by omega
      have hI : ¬ ((i : Int) < (i : Int)) := by omega
      obtain ⟨a1, c1, hR, hS⟩ := HL.out.t_.rd
      have HEN := hid (show Calls Tryd.prog 21 #[.pointer (some ⟨rb, 0, none⟩)] wr (fun e w' => e = .returned (.int .i64 (finJ r i)) ∧ wr = w') from rEnd_any rb a1 c1 _ _ wr hR)
      clear hR hS
      generalize hfj : finJ r i = fj at *
      have HFJ := hid hfj
      clear hfj
      by_cases hf : fj = 0
      case neg => as_aux_lemma =>
        have hE : (fj != 0) = true := by rw [bne_iff_ne]; exact hf
        go_wp2_with fail
        refine HEN.out.mono ?_
        rintro e w9 ⟨rfl, rfl⟩
        go_wp2_with (refine wpList_store_row (by rfl) 62 (.tmp 2) (.tmp 67) (by rfl) r0 _ mz _ (by rfl) (by first | rfl | kernel_rfl) HL.out.t_.res info_man rfl mz_one ?_
                     intro w8 hw8 hk8)
        have hres := run_loadVar_row (P := Tryd.prog) _ _ 62 62 _ (0, 0) _ hw8 Tryd.underlying62 rfl info_man
        exact bodyPost_ret (v := .tuple #[.agg mz, .int .i64 fj]) (results_at2D Tryd.results31 rfl hres rfl) rfl (HBAD.out fj wr w8 _ _ HL.out.t_ hw8 hk8 HE6.out hf)
      case pos => as_aux_lemma =>
        subst hf
        go_wp2_with fail
        refine HEN.out.mono ?_
        rintro e w9 ⟨rfl, rfl⟩
        have HRA := hid (show wr.rangeAt mb 0 (mcells b2 b3 i S D0 (.slice (some ⟨gd, 0, none⟩) i i)) from range_of_heapD HL.out.man)
        have HML2 := hid (mcells_length b2 b3 i S D0 (.slice (some ⟨gd, 0, none⟩) i i) HD32.out)
        have HON2 := hid (mcells_one b2 b3 i S D0 (some ⟨gd, 0, none⟩) i i)
        generalize hM2 : mcells b2 b3 i S D0 (.slice (some ⟨gd, 0, none⟩) i i) = M2 at *
        have HM2 := hid hM2
        have HIFa := hid (show (Tryd.prog.info? 62).map (·.size) = some M2.length from by rw [HML2.out]; kernel_rfl)
        have HIFb := hid (show (Tryd.prog.info? 62).map (·.size) = some M2.toArray.size from by rw [List.size_toArray, HML2.out]; kernel_rfl)
        have HSZb := hid (show mz.size = M2.toArray.size from by rw [mz_size]; rw [List.size_toArray, HML2.out])
        clear hM2
        go_wp2_with (first
          | (refine wpList_load_mid (by rfl) 62 (.tmp 7) (by rfl) mb 0 (by rfl) M2 _ HRA.out Tryd.underlying62 rfl HIFa.out ?_)
          | (refine wpList_store_row (by rfl) 62 (.tmp 2) (.tmp 69) (by rfl) r0 _ M2.toArray _ (by rfl) (by rfl) HL.out.t_.res HIFb.out HSZb.out HON2.out ?_
             intro w8 hw8 hk8))
        have hres := run_loadVar_row (P := Tryd.prog) _ _ 62 62 _ (0, 0) _ hw8 Tryd.underlying62 rfl HIFb.out
        refine bodyPost_ret (v := .tuple #[.agg M2.toArray, .int .i64 0]) (results_at2D Tryd.results31 rfl hres rfl) rfl ⟨fun h => absurd HE6.out h, fun _ => ⟨gd, HL.out.low, ?_, ?_, ?_⟩⟩
        · rw [← HM2.out, HD0.out, HS.out]
        · have hdl : ((List.range i).map fun j => dJ r (j + 1)).length = i := by simp
          refine ⟨some ⟨gd, 0, none⟩, i, by rw [hdl], fun d hd => ?_, fun _ => ⟨gd, 0, rfl, fun j hj => ?_⟩⟩
          · obtain ⟨j, _, rfl⟩ := List.mem_map.1 hd
            exact ⟨dJ_length _ _, dJ_lt r HLR.out _⟩
          · rw [hdl] at hj
            have h := HL.out.rng j hj
            have e : ((List.range i).map fun j => dJ r (j + 1)).getD j [] = dJ r (j + 1) := by
              rw [List.getD_eq_getElem?_getD, List.getElem?_map, List.getElem?_range hj]; rfl
            rw [e, Nat.zero_add]
            exact range_same h (hk8.block gd HL.out.gdl HL.out.ne.2.2.1)
        · exact HL.out.t_.bel.trans (hk8.below HL.out.t_.bel.size (by rw [HR0.out]; exact Nat.le_refl _))
end Go.Proofs.YteaidpbopgjleaaDoor
