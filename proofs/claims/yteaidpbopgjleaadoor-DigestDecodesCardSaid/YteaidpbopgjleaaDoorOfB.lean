/-
  OfBytes: the reference reads a manifest.
-/
import Derived.Test.YteaidpbopgjleaaDoorPart
import Derived.Deep.RegionHeld3
import Derived.Deep.RegionLaw
import Derived.Deep.AppendLies
namespace Go.Proofs.YteaidpbopgjleaaDoor
open Go Go.RowKit
set_option linter.unusedVariables false

set_option maxRecDepth 100000 in
set_option maxHeartbeats 2000000 in
theorem sizes_any (k n t : Int) (w : World) :
    Calls Tryd.prog 59 #[.int .i64 k, .int .i64 n, .int .i64 t] w fun e w' => e = .returned (.bool (vcB k n t)) ∧ w = w' := by
  by_cases h1 : 1 ≤ k
  case neg =>
    have HB := hid (show vcB k n t = false from by unfold vcB; exact decide_eq_false (fun h => h1 h.1))
    go_enter Tryd.func59, Tryd.ntmps59
    go_wp2
    go_ret
    exact ⟨by rw [HB.out]; rfl, rfl⟩
  by_cases h2 : k ≤ n
  case neg =>
    have HB := hid (show vcB k n t = false from by unfold vcB; exact decide_eq_false (fun h => h2 h.2.1))
    go_enter Tryd.func59, Tryd.ntmps59
    go_wp2
    go_ret
    exact ⟨by rw [HB.out]; rfl, rfl⟩
  by_cases h3 : n ≤ t
  case neg =>
    have HB := hid (show vcB k n t = false from by unfold vcB; exact decide_eq_false (fun h => h3 h.2.2.1))
    go_enter Tryd.func59, Tryd.ntmps59
    go_wp2
    go_ret
    exact ⟨by rw [HB.out]; rfl, rfl⟩
  by_cases h4 : t ≤ 255
  case neg =>
    have HB := hid (show vcB k n t = false from by unfold vcB; exact decide_eq_false (fun h => h4 h.2.2.2))
    go_enter Tryd.func59, Tryd.ntmps59
    go_wp2
    go_ret
    exact ⟨by rw [HB.out]; rfl, rfl⟩
  have HB := hid (show vcB k n t = true from by unfold vcB; exact decide_eq_true ⟨h1, h2, h3, h4⟩)
  go_enter Tryd.func59, Tryd.ntmps59
  go_wp2
  go_ret
  exact ⟨by rw [HB.out]; rfl, rfl⟩

set_option maxRecDepth 100000 in
set_option maxHeartbeats 2000000 in
theorem ofb_short (a : Option Addr) (n c : Nat) (w : World) (hn : n < 7) :
    Calls Tryd.prog 33 #[.slice a n c] w fun e w' => DcBad w 4 e w' := by
  have hI : (n : Int) < 7 := by omega
  obtain ⟨w1, hw1⟩ : ∃ w1, w1 = w.alloc (.cells mz 62) := ⟨_, rfl⟩
  have HB1 := hid (show Below w.heap.size w w1 from by rw [hw1]; exact (Below.refl _ _).alloc (Nat.le_refl _) _)
  have HR1 := hid (show w1.heap[w.heap.size]? = some (.cells mz 62 (0, 0)) from by rw [hw1]; exact heap_new _ _)
  go_enter Tryd.func33, Tryd.ntmps33
  go_upto_region 1 with fail
  change Code.wp _ _ _ _ (w.alloc (.cells mz 62))
  rw [← hw1]
  clear hw1
  go_wp2_with (refine wpList_store_row (by rfl) 62 (.tmp 2) (.tmp 9) (by rfl) w.heap.size _ mz _ (by rfl) (by first | rfl | kernel_rfl) HR1.out info_man rfl mz_one ?_
               intro w8 hw8 hk8)
  have hres := dec_fail (fn := Tryd.f33) rfl hw8
  exact bodyPost_ret (v := .tuple #[.agg mz, .int .i64 4]) (results_at2D Tryd.results33 rfl hres rfl) rfl ⟨rfl, HB1.out.trans (hk8.below HB1.out.size (Nat.le_refl _))⟩

theorem owns_belowG {w w' : World} {base m s : Nat} {e : TypeId} {v : Value} {xs : List Value} (h : w.ownsRow base e s v m xs) (k : Below w.heap.size w w') : w'.ownsRow base e s v m xs := by
  obtain ⟨h1, h2⟩ := h
  exact ⟨h1, h2.imp id fun ⟨g, cap, cur, h3, h4, h5, r⟩ => ⟨g, cap, cur, h3, h4, (k.block g (lt_of_heap h5)).trans h5, r⟩⟩
/-- what OfBytes answers -/
def OfTo (w : World) (b0 b1 b2 b3 b4 b5 b6 : Nat) (r : List Nat) (e : Ending) (w' : World) : Prop :=
  (decErr b0 b1 b2 b3 b4 b5 b6 r ≠ 0 → DcBad w (decErr b0 b1 b2 b3 b4 b5 b6 r) e w') ∧ (decErr b0 b1 b2 b3 b4 b5 b6 r = 0 → ∃ gd cp, w.heap.size ≤ gd ∧
    e = .returned (.tuple #[.agg (mcells b2 b3 b4 ((b5 * 256 + b6 : Nat) : Int) (dJ r 0) (.slice (some ⟨gd, 0, none⟩) b4 cp)).toArray, .int .i64 0]) ∧ Dgs w' (some ⟨gd, 0, none⟩) b4 cp ((List.range b4).map fun j => dJ r (j + 1)) ∧ Below w.heap.size w w')
/-- what its loop keeps -/
structure OfL (w wr : World) (r0 mb : Nat) (r : List Nat) (k n t s : Int) (D : List Nat) (i : Nat) (v : Value) : Prop where
  res : wr.heap[r0]? = some (.cells mz 62 (0, 0))
  man : ManAt wr mb k n t s D v
  own : wr.ownsRow (mb + 1) 30 32 v i (dcl ((List.range i).map fun j => dJ r (j + 1)))
  bel : Below w.heap.size w wr
  low : w.heap.size ≤ r0 ∧ r0 < mb
theorem OfL.far {w wr w5 w6 : World} {r0 mb : Nat} {r : List Nat} {k n t s : Int} {D : List Nat} {i : Nat} {v : Value} (h : OfL w wr r0 mb r k n t s D i v) (hb : Below wr.drew.heap.size wr.drew w5) {ob : Obj} (hg : (w5.alloc ob).grownBy w6 v.ownBlock) :
    ∀ q, q ≤ mb → w6.heap[q]? = wr.heap[q]? := fun q hq => by
  have hm : mb < wr.heap.size := lt_of_heap h.man
  have h5 : wr.heap.size ≤ w5.heap.size := hb.size
  refine (hg.block q (by simp; omega) (fun e => ?_)).trans ((heap_alloc_old _ _ (by omega)).trans (hb.block q (show q < wr.heap.size from by omega)))
  have := (h.own.lt q e.symm).1
  omega
theorem dcl_snoc (D : List (List Nat)) (d : List Nat) : dcl (D ++ [d]) = dcl D ++ u8s d := by
  unfold dcl
  simp
theorem OfL.step {w wr w5 w6 : World} {r0 mb : Nat} {r : List Nat} {k n t s : Int} {D : List Nat} {i : Nat} {v : Value} (h : OfL w wr r0 mb r k n t s D i v) (hD : D.length = 32) (hb : Below wr.drew.heap.size wr.drew w5) {ob : Obj} (hg : (w5.alloc ob).grownBy w6 v.ownBlock)
    {g cp : Nat} (ho : w6.ownsRow (mb + 1) 30 32 (.slice (some ⟨g, 0, none⟩) (i + 1) cp) (i + 1) (dcl ((List.range i).map fun j => dJ r (j + 1)) ++ u8s (dJ r (i + 1)))) :
    OfL w (w6.setCell ⟨mb, 36, none⟩ (.slice (some ⟨g, 0, none⟩) (i + 1) cp)) r0 mb r k n t s D (i + 1) (.slice (some ⟨g, 0, none⟩) (i + 1) cp) := by
  have hf := OfL.far h hb hg
  have hm6 : ManAt w6 mb k n t s D v := (hf mb (Nat.le_refl _)).trans h.man
  have hl := h.low
  have h5 : wr.heap.size ≤ w5.heap.size := hb.size
  have hbel : Below w.heap.size w w6 := by
    have h1 : Below w.heap.size w wr.drew := h.bel.trans (bel_drewN (Below.refl _ _) 1)
    have h2 : Below w.heap.size w w5 := h1.trans (hb.mono h1.size)
    exact (h2.alloc h2.size ob).grown hg (by have := h2.size; simp; omega) (fun q e => by have := (h.own.lt q e).1; omega)
  refine ⟨(Below.heap_setCell _ _ _ _ (by show r0 ≠ mb; omega)).trans ((hf r0 (by omega)).trans h.res), man_row hm6 hD _, ?_, hbel.trans (((Kept.refl mb w6).setCell (p := ⟨mb, 36, none⟩) rfl _).below hbel.size (by omega)), hl⟩
  rw [List.range_succ, List.map_append, List.map_cons, List.map_nil, dcl_snoc]
  exact ownsRow_setCell_below ho (show mb < mb + 1 from by omega) _
theorem fill_dig (E : List Nat) (hE : E.length = 32) : List.foldl (fun (cs : Array Value) (x : Value × Nat) => cs.setIfInBounds x.snd x.fst) #[.int .u8 0, .int .u8 0, .int .u8 0, .int .u8 0, .int .u8 0, .int .u8 0, .int .u8 0, .int .u8 0, .int .u8 0, .int .u8 0, .int .u8 0, .int .u8 0, .int .u8 0, .int .u8 0, .int .u8 0, .int .u8 0, .int .u8 0, .int .u8 0, .int .u8 0, .int .u8 0, .int .u8 0, .int .u8 0, .int .u8 0, .int .u8 0, .int .u8 0, .int .u8 0, .int .u8 0, .int .u8 0, .int .u8 0, .int .u8 0, .int .u8 0, .int .u8 0] (u8s E).zipIdx = (u8s E).toArray := by
  obtain ⟨x0, x1, x2, x3, x4, x5, x6, x7, x8, x9, x10, x11, x12, x13, x14, x15, x16, x17, x18, x19, x20, x21, x22, x23, x24, x25, x26, x27, x28, x29, x30, x31, rfl⟩ := list32 E hE
  kernel_rfl
/-- one digest appended to an own row, as a step of a region -/
theorem step_dig_lies {ops : Array Oper} {o : Oper} {a : Act} {w : World} {K : Act → World → Prop} {Q : Exit → Act → World → Prop} {E : Prop} (hgd : o.guard = none) (s x : Operand)
    (ho : o.op = .call { callee := .builtin .append, args := #[s, x], argTypes := #[60, 60] }) (base n0 : Nat) (v0 : Value) (X : List Value) (hs : a.eval s = v0) (hown : w.ownsRow base 30 32 v0 n0 X)
    (sb : Nat) (d : List Nat) (hx : a.eval x = .slice (some ⟨sb, 0, none⟩) 1 1) (hb : w.heap[sb]? = some (.cells (u8s d).toArray 30 (0, 0))) (hd : d.length = 32) (hn : n0 ≤ 100000) (hbase : base ≤ w.heap.size)
    (hK : ∀ g cap w', w'.ownsRow base 30 32 (.slice (some ⟨g, 0, none⟩) (n0 + 1) cap) (n0 + 1) (X ++ u8s d) → w.grownBy w' v0.ownBlock → g < w'.heap.size → K (a.put o.dst (.slice (some ⟨g, 0, none⟩) (n0 + 1) cap)) w') :
    if Region.wanted o (yielded ops a.tmps) = true then Oper.wp Tryd.prog o a w K Q else E := by
  have hw : Region.wanted o (yielded ops a.tmps) = true := by simp [Region.wanted, hgd]
  rw [if_pos hw]
  obtain ⟨i0, hi, hz0, hz1, hz2⟩ := info_parts info52
  refine wp_append_lies w s x _ ho base 30 i0 _ 32 32 Tryd.underlying60 hi hz0 hz1 hz2 (by rfl) (by decide) _ n0 X hs hown ⟨sb, 0, none⟩ 1 1 (u8s d) hx (by simp [u8s, hd]) (fun j u hu => World.news_of_block hb j u (by simpa using hu)) (u8s_oneH d) (by decide) (by unfold maxLen; omega) (by omega) hbase _ rfl ?_
  intro g cap w' hown' hg _ hlt
  exact hK g cap w' hown' hg hlt

theorem map_four (x0 x1 x2 x3 : Operand) (f : Operand → Value) : ((#[(0, x0), (1, x1), (2, x2), (3, x3)] : Array (Nat × Operand)).map fun (i, x) => (i, f x)).toList = [(0, f x0), (1, f x1), (2, f x2), (3, f x3)] := by simp
theorem run_build4 {P : Program} (o : Oper) (a : Act) (t : TypeId) (x0 x1 x2 x3 : Operand) (ho : o.op = .build t #[(0, x0), (1, x1), (2, x2), (3, x3)]) {v0 v1 v2 v3 : Value} (h0 : a.eval x0 = v0) (h1 : a.eval x1 = v1) (h2 : a.eval x2 = v2) (h3 : a.eval x3 = v3)
    {cells : Array Value} (hp : P.built t [(0, v0), (1, v1), (2, v2), (3, v3)] = some cells) (w : World) : (execOp a.eval o).run P w = .ok (.value (.agg cells)) w := by
  have hv := map_four x0 x1 x2 x3 a.eval
  rw [h0, h1, h2, h3] at hv
  rw [← hv] at hp
  unfold execOp
  simp only [ho]
  have h := run_build (P := P) w t _ cells hp
  simp only [Sem.run_bind, h, Result.andThen_ok, Sem.run_pure]

set_option maxRecDepth 100000 in
set_option maxHeartbeats 4000000 in
theorem ofb_long (b o n c b0 b1 b2 b3 b4 b5 b6 : Nat) (r : List Nat) (w : World) (hb : Bs w (.slice (some ⟨b, o, none⟩) n c) (b0 :: b1 :: b2 :: b3 :: b4 :: b5 :: b6 :: r)) (hn : n ≤ 1000000) :
    Calls Tryd.prog 33 #[.slice (some ⟨b, o, none⟩) n c] w fun e w' => OfTo w b0 b1 b2 b3 b4 b5 b6 r e w' := by
  have hlen := hb.len
  simp only [List.length_cons] at hlen
  have hn7 : ¬ ((n : Int) < 7) := by omega
  obtain ⟨w1, hw1⟩ : ∃ w1, w1 = w.alloc (.cells mz 62) := ⟨_, rfl⟩
  have HB1 := hid (show Below w.heap.size w w1 from by rw [hw1]; exact (Below.refl _ _).alloc (Nat.le_refl _) _)
  have HR1 := hid (show w1.heap[w.heap.size]? = some (.cells mz 62 (0, 0)) from by rw [hw1]; exact heap_new _ _)
  have hs1 : w.heap.size < w1.heap.size := lt_of_heap HR1.out
  have HBS := hid (hb.below HB1.out)
  have HLEN := hid hlen
  have hb0 := hb.lt 0
  have hb1 := hb.lt 1
  have hb2 := hb.lt 2
  have hb3 := hb.lt 3
  have hb4 := hb.lt 4
  have hb5 := hb.lt 5
  have hb6 := hb.lt 6
  have c0 := HBS.out.cell 0 (by simp)
  have c1 := HBS.out.cell 1 (by simp)
  have c2 := HBS.out.cell 2 (by simp)
  have c3 := HBS.out.cell 3 (by simp)
  have c4 := HBS.out.cell 4 (by simp)
  have c5 := HBS.out.cell 5 (by simp)
  have c6 := HBS.out.cell 6 (by simp)
  simp only [List.getD_cons_zero, List.getD_cons_succ, Nat.add_zero] at hb0 hb1 hb2 hb3 hb4 hb5 hb6 c0 c1 c2 c3 c4 c5 c6
  have hblt : b < w1.heap.size := World.block_lt_of_cell? _ _ c0
  have hn7' : 7 ≤ n := by omega
  have HLR := hid (show ∀ i, r.getD i 0 < 256 from fun i => by have h := hb.lt (i + 7); simpa using h)
  have HBW := hid hb
  have hbw : b < w.heap.size := World.block_lt_of_cell? _ _ (hb.cell 0 (by simp))
  clear hb hlen
  obtain ⟨r0, hr0⟩ : ∃ y, y = w.heap.size := ⟨_, rfl⟩
  have HR0 := hid hr0
  have HBAD := hid (fun (err : Int) (wx w8 : World) (T : Below w.heap.size w wx) (hw8 : w8.heap[r0]? = some (.cells mz 62 (0, 0))) (hk8 : Kept r0 wx w8) (he : decErr b0 b1 b2 b3 b4 b5 b6 r = err) (h0 : err ≠ 0) =>
    (show OfTo w b0 b1 b2 b3 b4 b5 b6 r (.returned (.tuple #[.agg mz, .int .i64 err])) w8 from ⟨fun _ => by rw [he]; exact ⟨rfl, T.trans (hk8.below T.size (by rw [HR0.out]; exact Nat.le_refl _))⟩, fun h => absurd (he.symm.trans h) h0⟩))
  go_enter Tryd.func33, Tryd.ntmps33
  go_upto_region 1 with fail
  change Code.wp _ _ _ _ (w.alloc (.cells mz 62))
  rw [← hw1]
  clear hw1
  rw [← hr0] at HR1 hs1 ⊢
  by_cases hm0 : b0 = 77
  case neg => as_aux_lemma =>
    have e0 : (((b0 : Nat) : Int) != 77) = true := by rw [bne_iff_ne]; omega
    have HE := hid (show decErr b0 b1 b2 b3 b4 b5 b6 r = 5 from by unfold decErr; rw [if_pos (fun h => hm0 h.1)])
    clear hm0 hr0
    go_wp2_with (refine wpList_store_row (by rfl) 62 (.tmp 2) (.tmp 20) (by rfl) r0 _ mz _ (by rfl) (by first | rfl | kernel_rfl) HR1.out info_man rfl mz_one ?_
                 intro w8 hw8 hk8)
    have hres := run_loadVar_row (P := Tryd.prog) _ _ 62 62 _ (0, 0) _ hw8 Tryd.underlying62 rfl info_man
    exact bodyPost_ret (v := .tuple #[.agg mz, .int .i64 5]) (results_at2D Tryd.results33 rfl hres rfl) rfl (HBAD.out 5 w1 w8 HB1.out hw8 hk8 HE.out (by decide))
  by_cases hm1 : b1 = 1
  case neg => as_aux_lemma =>
    have e0 : (((b0 : Nat) : Int) != 77) = false := by rw [hm0]; rfl
    have e1 : (((b1 : Nat) : Int) != 1) = true := by rw [bne_iff_ne]; omega
    have HE := hid (show decErr b0 b1 b2 b3 b4 b5 b6 r = 5 from by unfold decErr; rw [if_pos (fun h => hm1 h.2)])
    clear hm0 hm1 hr0
    go_wp2_with (refine wpList_store_row (by rfl) 62 (.tmp 2) (.tmp 20) (by rfl) r0 _ mz _ (by rfl) (by first | rfl | kernel_rfl) HR1.out info_man rfl mz_one ?_
                 intro w8 hw8 hk8)
    have hres := run_loadVar_row (P := Tryd.prog) _ _ 62 62 _ (0, 0) _ hw8 Tryd.underlying62 rfl info_man
    exact bodyPost_ret (v := .tuple #[.agg mz, .int .i64 5]) (results_at2D Tryd.results33 rfl hres rfl) rfl (HBAD.out 5 w1 w8 HB1.out hw8 hk8 HE.out (by decide))
  have e0 : (((b0 : Nat) : Int) != 77) = false := by rw [hm0]; rfl
  have e1 : (((b1 : Nat) : Int) != 1) = false := by rw [hm1]; rfl
  have HE5 := hid (show decErr b0 b1 b2 b3 b4 b5 b6 r = if vnB b2 b3 b4 ((b5 * 256 + b6 : Nat) : Int) = false then 2 else finJ r b4 from by unfold decErr; rw [if_neg (fun h => h ⟨hm0, hm1⟩)])
  clear hm0 hm1
  obtain ⟨S, hS⟩ : ∃ S, S = b5 * 256 + b6 := ⟨_, rfl⟩
  have hSl : S < 65536 := by omega
  have t2 : IntKind.i64.wrap (b2 : Int) = (b2 : Int) := by rw [IntKind.wrap_i64]; omega
  have t3 : IntKind.i64.wrap (b3 : Int) = (b3 : Int) := by rw [IntKind.wrap_i64]; omega
  have t4 : IntKind.i64.wrap (b4 : Int) = (b4 : Int) := by rw [IntKind.wrap_i64]; omega
  have t5 : IntKind.i64.wrap (b5 : Int) = (b5 : Int) := by rw [IntKind.wrap_i64]; omega
  have t6 : IntKind.i64.wrap (b6 : Int) = (b6 : Int) := by rw [IntKind.wrap_i64]; omega
  have t7 : IntKind.i64.wrap ((b5 : Int) * 256) = (b5 : Int) * 256 := by rw [IntKind.wrap_i64]; omega
  have t8 : IntKind.i64.wrap ((b5 : Int) * 256 + (b6 : Int)) = (S : Int) := by rw [IntKind.wrap_i64]; omega
  have t9 : (b5 : Int) * 256 + (b6 : Int) = (S : Int) := by omega
  rw [← hS] at HE5
  have HS := hid hS
  clear hS hr0
  have hz32 : (List.replicate 32 0 : List Nat).length = 32 := List.length_replicate
  have HML := hid (mcells_length (b2 : Int) (b3 : Int) (b4 : Int) (S : Int) (List.replicate 32 0) (.slice none 0 0) hz32)
  have HON := hid (mcells_one (b2 : Int) (b3 : Int) (b4 : Int) (S : Int) (List.replicate 32 0) none 0 0)
  generalize hM : mcells (b2 : Int) (b3 : Int) (b4 : Int) (S : Int) (List.replicate 32 0) (.slice none 0 0) = M at *
  have HMM := hid hM
  have HIF := hid (show (Tryd.prog.info? 62).map (·.size) = some M.length from by rw [HML.out]; kernel_rfl)
  have HIF2 := hid (show (Tryd.prog.info? 62).map (·.size) = some M.toArray.size from by rw [List.size_toArray, HML.out]; kernel_rfl)
  have HSZ := hid (show mz.size = M.toArray.size from by rw [mz_size]; rw [List.size_toArray, HML.out])
  clear hM
  have HBU := hid (show Tryd.prog.built 62 [(0, .int .i64 (b2 : Int)), (1, .int .i64 (b3 : Int)), (2, .int .i64 (b4 : Int)), (3, .int .i64 (S : Int))] = some M.toArray from by rw [← HMM.out]; kernel_rfl)
  have tS : IntKind.i64.wrap (S : Int) = (S : Int) := by rw [IntKind.wrap_i64]; omega
  have i2 : (2 : Int) < (n : Int) := by omega
  have i3 : (3 : Int) < (n : Int) := by omega
  have i4 : (4 : Int) < (n : Int) := by omega
  have i5 : (5 : Int) < (n : Int) := by omega
  have i6 : (6 : Int) < (n : Int) := by omega
  go_upto_region 5 with fail
  have K0 := hid (show w1.drew.cell? ⟨b, o + 2, none⟩ = some (.int .u8 (b2 : Int)) ∧ w1.drew.cell? ⟨b, o + 3, none⟩ = some (.int .u8 (b3 : Int)) ∧ w1.drew.cell? ⟨b, o + 4, none⟩ = some (.int .u8 (b4 : Int)) ∧ w1.drew.cell? ⟨b, o + 5, none⟩ = some (.int .u8 (b5 : Int)) ∧ w1.drew.cell? ⟨b, o + 6, none⟩ = some (.int .u8 (b6 : Int)) from ⟨c2, c3, c4, c5, c6⟩)
  refine wp_region_held_drew (S := (fun w' => w'.cell? ⟨b, o + 2, none⟩ = some (.int .u8 (b2 : Int)) ∧ w'.cell? ⟨b, o + 3, none⟩ = some (.int .u8 (b3 : Int)) ∧ w'.cell? ⟨b, o + 4, none⟩ = some (.int .u8 (b4 : Int)) ∧ w'.cell? ⟨b, o + 5, none⟩ = some (.int .u8 (b5 : Int)) ∧ w'.cell? ⟨b, o + 6, none⟩ = some (.int .u8 (b6 : Int)))) (by kernel_rfl) K0.out (fun hHeld => ?_)
  refine wpAnyH_take (i := 0) (oi := { dst := some 21, op := Op.move (Operand.tmp 0), type := 26, pos := "ref.go:279", after := #[], guard := none }) (v := ?_) rfl (by kernel_rfl) (by kernel_rfl) (by kernel_rfl) (fun _ _ _ h => h) (Or.inl ⟨by rfl, ?hy⟩) hHeld ?_
  case hy => (intro w hSw; (try dsimp only at hSw); go_simp; all_goals (with_reducible rfl))
  try simp only [Act.put, List.setIfInBounds_toArray, List.set_cons_zero, List.set_cons_succ]
  refine wpAnyH_take (i := 1) (oi := { dst := some 22, op := Op.indexAddr 26 (Operand.tmp 21) (Operand.const (Value.int IntKind.i64 2)), type := 0, pos := "ref.go:279", after := #[{ on := 0, ground := Ground.data }], guard := none }) (v := ?_) rfl (by kernel_rfl) (by kernel_rfl) (by kernel_rfl) (fun _ _ _ h => h) (Or.inl ⟨by rfl, ?hy⟩) hHeld ?_
  case hy => (intro w hSw; (try dsimp only at hSw); go_simp; all_goals (with_reducible rfl))
  try simp only [Act.put, List.setIfInBounds_toArray, List.set_cons_zero, List.set_cons_succ]
  refine wpAnyH_take (i := 2) (oi := { dst := some 23, op := Op.load 5 (Operand.tmp 22), type := 5, pos := "ref.go:279", after := #[{ on := 1, ground := Ground.data }], guard := none }) (v := ?_) rfl (by kernel_rfl) (by kernel_rfl) (by kernel_rfl) (fun _ _ _ h => h) (Or.inl ⟨by rfl, ?hy⟩) hHeld ?_
  case hy => (intro w hSw; (try dsimp only at hSw); go_simp; all_goals (with_reducible rfl))
  try simp only [Act.put, List.setIfInBounds_toArray, List.set_cons_zero, List.set_cons_succ]
  refine wpAnyH_take (i := 3) (oi := { dst := some 24, op := Op.convert 5 3 (Operand.tmp 23), type := 3, pos := "ref.go:279", after := #[{ on := 2, ground := Ground.data }], guard := none }) (v := ?_) rfl (by kernel_rfl) (by kernel_rfl) (by kernel_rfl) (fun _ _ _ h => h) (Or.inl ⟨by rfl, ?hy⟩) hHeld ?_
  case hy => (intro w hSw; (try dsimp only at hSw); go_simp; all_goals (with_reducible rfl))
  try simp only [Act.put, List.setIfInBounds_toArray, List.set_cons_zero, List.set_cons_succ]
  refine wpAnyH_take (i := 4) (oi := { dst := some 25, op := Op.move (Operand.tmp 0), type := 26, pos := "ref.go:279", after := #[], guard := none }) (v := ?_) rfl (by kernel_rfl) (by kernel_rfl) (by kernel_rfl) (fun _ _ _ h => h) (Or.inl ⟨by rfl, ?hy⟩) hHeld ?_
  case hy => (intro w hSw; (try dsimp only at hSw); go_simp; all_goals (with_reducible rfl))
  try simp only [Act.put, List.setIfInBounds_toArray, List.set_cons_zero, List.set_cons_succ]
  refine wpAnyH_take (i := 5) (oi := { dst := some 26, op := Op.indexAddr 26 (Operand.tmp 25) (Operand.const (Value.int IntKind.i64 3)), type := 0, pos := "ref.go:279", after := #[{ on := 4, ground := Ground.data }], guard := none }) (v := ?_) rfl (by kernel_rfl) (by kernel_rfl) (by kernel_rfl) (fun _ _ _ h => h) (Or.inl ⟨by rfl, ?hy⟩) hHeld ?_
  case hy => (intro w hSw; (try dsimp only at hSw); go_simp; all_goals (with_reducible rfl))
  try simp only [Act.put, List.setIfInBounds_toArray, List.set_cons_zero, List.set_cons_succ]
  refine wpAnyH_take (i := 6) (oi := { dst := some 27, op := Op.load 5 (Operand.tmp 26), type := 5, pos := "ref.go:279", after := #[{ on := 5, ground := Ground.data }], guard := none }) (v := ?_) rfl (by kernel_rfl) (by kernel_rfl) (by kernel_rfl) (fun _ _ _ h => h) (Or.inl ⟨by rfl, ?hy⟩) hHeld ?_
  case hy => (intro w hSw; (try dsimp only at hSw); go_simp; all_goals (with_reducible rfl))
  try simp only [Act.put, List.setIfInBounds_toArray, List.set_cons_zero, List.set_cons_succ]
  refine wpAnyH_take (i := 7) (oi := { dst := some 28, op := Op.convert 5 3 (Operand.tmp 27), type := 3, pos := "ref.go:279", after := #[{ on := 6, ground := Ground.data }], guard := none }) (v := ?_) rfl (by kernel_rfl) (by kernel_rfl) (by kernel_rfl) (fun _ _ _ h => h) (Or.inl ⟨by rfl, ?hy⟩) hHeld ?_
  case hy => (intro w hSw; (try dsimp only at hSw); go_simp; all_goals (with_reducible rfl))
  try simp only [Act.put, List.setIfInBounds_toArray, List.set_cons_zero, List.set_cons_succ]
  refine wpAnyH_take (i := 8) (oi := { dst := some 29, op := Op.move (Operand.tmp 0), type := 26, pos := "ref.go:279", after := #[], guard := none }) (v := ?_) rfl (by kernel_rfl) (by kernel_rfl) (by kernel_rfl) (fun _ _ _ h => h) (Or.inl ⟨by rfl, ?hy⟩) hHeld ?_
  case hy => (intro w hSw; (try dsimp only at hSw); go_simp; all_goals (with_reducible rfl))
  try simp only [Act.put, List.setIfInBounds_toArray, List.set_cons_zero, List.set_cons_succ]
  refine wpAnyH_take (i := 9) (oi := { dst := some 30, op := Op.indexAddr 26 (Operand.tmp 29) (Operand.const (Value.int IntKind.i64 4)), type := 0, pos := "ref.go:279", after := #[{ on := 8, ground := Ground.data }], guard := none }) (v := ?_) rfl (by kernel_rfl) (by kernel_rfl) (by kernel_rfl) (fun _ _ _ h => h) (Or.inl ⟨by rfl, ?hy⟩) hHeld ?_
  case hy => (intro w hSw; (try dsimp only at hSw); go_simp; all_goals (with_reducible rfl))
  try simp only [Act.put, List.setIfInBounds_toArray, List.set_cons_zero, List.set_cons_succ]
  refine wpAnyH_take (i := 10) (oi := { dst := some 31, op := Op.load 5 (Operand.tmp 30), type := 5, pos := "ref.go:279", after := #[{ on := 9, ground := Ground.data }], guard := none }) (v := ?_) rfl (by kernel_rfl) (by kernel_rfl) (by kernel_rfl) (fun _ _ _ h => h) (Or.inl ⟨by rfl, ?hy⟩) hHeld ?_
  case hy => (intro w hSw; (try dsimp only at hSw); go_simp; all_goals (with_reducible rfl))
  try simp only [Act.put, List.setIfInBounds_toArray, List.set_cons_zero, List.set_cons_succ]
  refine wpAnyH_take (i := 11) (oi := { dst := some 32, op := Op.convert 5 3 (Operand.tmp 31), type := 3, pos := "ref.go:279", after := #[{ on := 10, ground := Ground.data }], guard := none }) (v := ?_) rfl (by kernel_rfl) (by kernel_rfl) (by kernel_rfl) (fun _ _ _ h => h) (Or.inl ⟨by rfl, ?hy⟩) hHeld ?_
  case hy => (intro w hSw; (try dsimp only at hSw); go_simp; all_goals (with_reducible rfl))
  try simp only [Act.put, List.setIfInBounds_toArray, List.set_cons_zero, List.set_cons_succ]
  refine wpAnyH_take (i := 12) (oi := { dst := some 33, op := Op.move (Operand.tmp 0), type := 26, pos := "ref.go:279", after := #[], guard := none }) (v := ?_) rfl (by kernel_rfl) (by kernel_rfl) (by kernel_rfl) (fun _ _ _ h => h) (Or.inl ⟨by rfl, ?hy⟩) hHeld ?_
  case hy => (intro w hSw; (try dsimp only at hSw); go_simp; all_goals (with_reducible rfl))
  try simp only [Act.put, List.setIfInBounds_toArray, List.set_cons_zero, List.set_cons_succ]
  refine wpAnyH_take (i := 13) (oi := { dst := some 34, op := Op.indexAddr 26 (Operand.tmp 33) (Operand.const (Value.int IntKind.i64 5)), type := 0, pos := "ref.go:279", after := #[{ on := 12, ground := Ground.data }], guard := none }) (v := ?_) rfl (by kernel_rfl) (by kernel_rfl) (by kernel_rfl) (fun _ _ _ h => h) (Or.inl ⟨by rfl, ?hy⟩) hHeld ?_
  case hy => (intro w hSw; (try dsimp only at hSw); go_simp; all_goals (with_reducible rfl))
  try simp only [Act.put, List.setIfInBounds_toArray, List.set_cons_zero, List.set_cons_succ]
  refine wpAnyH_take (i := 14) (oi := { dst := some 35, op := Op.load 5 (Operand.tmp 34), type := 5, pos := "ref.go:279", after := #[{ on := 13, ground := Ground.data }], guard := none }) (v := ?_) rfl (by kernel_rfl) (by kernel_rfl) (by kernel_rfl) (fun _ _ _ h => h) (Or.inl ⟨by rfl, ?hy⟩) hHeld ?_
  case hy => (intro w hSw; (try dsimp only at hSw); go_simp; all_goals (with_reducible rfl))
  try simp only [Act.put, List.setIfInBounds_toArray, List.set_cons_zero, List.set_cons_succ]
  refine wpAnyH_take (i := 15) (oi := { dst := some 36, op := Op.convert 5 3 (Operand.tmp 35), type := 3, pos := "ref.go:279", after := #[{ on := 14, ground := Ground.data }], guard := none }) (v := ?_) rfl (by kernel_rfl) (by kernel_rfl) (by kernel_rfl) (fun _ _ _ h => h) (Or.inl ⟨by rfl, ?hy⟩) hHeld ?_
  case hy => (intro w hSw; (try dsimp only at hSw); go_simp; all_goals (with_reducible rfl))
  try simp only [Act.put, List.setIfInBounds_toArray, List.set_cons_zero, List.set_cons_succ]
  refine wpAnyH_take (i := 16) (oi := { dst := some 37, op := Op.binOp BinOp.mul 3 (Operand.tmp 36) (Operand.const (Value.int IntKind.i64 256)) 3, type := 3, pos := "ref.go:279", after := #[{ on := 15, ground := Ground.data }], guard := none }) (v := ?_) rfl (by kernel_rfl) (by kernel_rfl) (by kernel_rfl) (fun _ _ _ h => h) (Or.inl ⟨by rfl, ?hy⟩) hHeld ?_
  case hy => (intro w hSw; (try dsimp only at hSw); go_simp; all_goals (with_reducible rfl))
  try simp only [Act.put, List.setIfInBounds_toArray, List.set_cons_zero, List.set_cons_succ]
  refine wpAnyH_take (i := 17) (oi := { dst := some 38, op := Op.move (Operand.tmp 0), type := 26, pos := "ref.go:279", after := #[], guard := none }) (v := ?_) rfl (by kernel_rfl) (by kernel_rfl) (by kernel_rfl) (fun _ _ _ h => h) (Or.inl ⟨by rfl, ?hy⟩) hHeld ?_
  case hy => (intro w hSw; (try dsimp only at hSw); go_simp; all_goals (with_reducible rfl))
  try simp only [Act.put, List.setIfInBounds_toArray, List.set_cons_zero, List.set_cons_succ]
  refine wpAnyH_take (i := 18) (oi := { dst := some 39, op := Op.indexAddr 26 (Operand.tmp 38) (Operand.const (Value.int IntKind.i64 6)), type := 0, pos := "ref.go:279", after := #[{ on := 17, ground := Ground.data }], guard := none }) (v := ?_) rfl (by kernel_rfl) (by kernel_rfl) (by kernel_rfl) (fun _ _ _ h => h) (Or.inl ⟨by rfl, ?hy⟩) hHeld ?_
  case hy => (intro w hSw; (try dsimp only at hSw); go_simp; all_goals (with_reducible rfl))
  try simp only [Act.put, List.setIfInBounds_toArray, List.set_cons_zero, List.set_cons_succ]
  refine wpAnyH_take (i := 19) (oi := { dst := some 40, op := Op.load 5 (Operand.tmp 39), type := 5, pos := "ref.go:279", after := #[{ on := 18, ground := Ground.data }], guard := none }) (v := ?_) rfl (by kernel_rfl) (by kernel_rfl) (by kernel_rfl) (fun _ _ _ h => h) (Or.inl ⟨by rfl, ?hy⟩) hHeld ?_
  case hy => (intro w hSw; (try dsimp only at hSw); go_simp; all_goals (with_reducible rfl))
  try simp only [Act.put, List.setIfInBounds_toArray, List.set_cons_zero, List.set_cons_succ]
  refine wpAnyH_take (i := 20) (oi := { dst := some 41, op := Op.convert 5 3 (Operand.tmp 40), type := 3, pos := "ref.go:279", after := #[{ on := 19, ground := Ground.data }], guard := none }) (v := ?_) rfl (by kernel_rfl) (by kernel_rfl) (by kernel_rfl) (fun _ _ _ h => h) (Or.inl ⟨by rfl, ?hy⟩) hHeld ?_
  case hy => (intro w hSw; (try dsimp only at hSw); go_simp; all_goals (with_reducible rfl))
  try simp only [Act.put, List.setIfInBounds_toArray, List.set_cons_zero, List.set_cons_succ]
  refine wpAnyH_take (i := 21) (oi := { dst := some 42, op := Op.binOp BinOp.add 3 (Operand.tmp 37) (Operand.tmp 41) 3, type := 3, pos := "ref.go:279", after := #[{ on := 16, ground := Ground.data }, { on := 20, ground := Ground.data }], guard := none }) (v := ?_) rfl (by kernel_rfl) (by kernel_rfl) (by kernel_rfl) (fun _ _ _ h => h) (Or.inl ⟨by rfl, ?hy⟩) hHeld ?_
  case hy => (intro w hSw; (try dsimp only at hSw); go_simp; all_goals (with_reducible rfl))
  try simp only [Act.put, List.setIfInBounds_toArray, List.set_cons_zero, List.set_cons_succ]
  refine wpAnyH_take (i := 22) (oi := { dst := some 43, op := Op.build 62 #[(0, Operand.tmp 24), (1, Operand.tmp 28), (2, Operand.tmp 32), (3, Operand.tmp 42)], type := 62, pos := "ref.go:279", after := #[{ on := 3, ground := Ground.data }, { on := 7, ground := Ground.data }, { on := 11, ground := Ground.data }, { on := 21, ground := Ground.data }], guard := none }) (v := .agg M.toArray) rfl (by kernel_rfl) (by kernel_rfl) (by kernel_rfl) (fun _ _ _ h => h) (Or.inl ⟨by rfl, fun w _ => ?hy⟩) hHeld ?_
  case hy => exact run_build4 (v0 := .int .i64 (b2 : Int)) (v1 := .int .i64 (b3 : Int)) (v2 := .int .i64 (b4 : Int)) (v3 := .int .i64 (S : Int)) _ _ 62 (.tmp 24) (.tmp 28) (.tmp 32) (.tmp 42) (by with_reducible rfl) (by rfl) (by rfl) (by rfl) (by rfl) HBU.out w
  try simp only [Act.put, List.setIfInBounds_toArray, List.set_cons_zero, List.set_cons_succ]
  refine wpAnyH_ready (rs := [23]) (by kernel_rfl) (by simp) ?_
  refine AllReadyH.cons (o := { dst := some 4, op := Op.alloc 62, type := 0, pos := "ref.go:279", after := #[], guard := none }) rfl (fun K hK => ?_) AllReadyH.nil
  refine step_mkm rfl rfl ?_
  intro mb w3 hmb HM3 hn3 hl3
  refine hK.out _ _ ?_ (fun hHeld3 => ?_)
  · have hbl := hn3.block b (by simpa using hblt); obtain ⟨k2, k3, k4, k5, k6⟩ := hHeld; exact ⟨(World.cell?_of_block (a := ⟨b, o + 2, none⟩) hbl).trans k2, (World.cell?_of_block (a := ⟨b, o + 3, none⟩) hbl).trans k3, (World.cell?_of_block (a := ⟨b, o + 4, none⟩) hbl).trans k4, (World.cell?_of_block (a := ⟨b, o + 5, none⟩) hbl).trans k5, (World.cell?_of_block (a := ⟨b, o + 6, none⟩) hbl).trans k6⟩
  clear hK K
  try simp only [Act.put, List.setIfInBounds_toArray, List.set_cons_zero, List.set_cons_succ]
  refine wpAnyH_ready (rs := [24]) (by kernel_rfl) (by simp) ?_
  refine AllReadyH.cons (o := { dst := none, op := Op.store 62 (Operand.tmp 4) (Operand.tmp 43), type := 0, pos := "ref.go:279", after := #[{ on := 23, ground := Ground.data }, { on := 22, ground := Ground.data }, { on := 0, ground := Ground.phase }, { on := 1, ground := Ground.phase }, { on := 2, ground := Ground.phase }, { on := 3, ground := Ground.phase }, { on := 4, ground := Ground.phase }, { on := 5, ground := Ground.phase }, { on := 6, ground := Ground.phase }, { on := 7, ground := Ground.phase }, { on := 8, ground := Ground.phase }, { on := 9, ground := Ground.phase }, { on := 10, ground := Ground.phase }, { on := 11, ground := Ground.phase }, { on := 12, ground := Ground.phase }, { on := 13, ground := Ground.phase }, { on := 14, ground := Ground.phase }, { on := 15, ground := Ground.phase }, { on := 16, ground := Ground.phase }, { on := 17, ground := Ground.phase }, { on := 18, ground := Ground.phase }, { on := 19, ground := Ground.phase }, { on := 20, ground := Ground.phase }, { on := 21, ground := Ground.phase }, { on := 22, ground := Ground.phase }, { on := 23, ground := Ground.phase }], guard := none }) rfl (fun K hK => ?_) AllReadyH.nil
  refine step_store_row rfl 62 (.tmp 4) (.tmp 43) rfl mb mz M.toArray 62 rfl rfl HM3 HIF2.out HSZ.out HON.out ?_
  intro w4 HM4 hk4
  have hmbb : b ≠ mb := by have h := hblt; simp at hmb; omega
  refine hK.out _ _ ?_ (fun hHeld4 => ?_)
  · have hbl := hk4.block b (Nat.lt_of_lt_of_le (show b < w1.drew.heap.size from by simpa using hblt) hn3.size) hmbb; obtain ⟨k2, k3, k4, k5, k6⟩ := hHeld3; exact ⟨(World.cell?_of_block (a := ⟨b, o + 2, none⟩) hbl).trans k2, (World.cell?_of_block (a := ⟨b, o + 3, none⟩) hbl).trans k3, (World.cell?_of_block (a := ⟨b, o + 4, none⟩) hbl).trans k4, (World.cell?_of_block (a := ⟨b, o + 5, none⟩) hbl).trans k5, (World.cell?_of_block (a := ⟨b, o + 6, none⟩) hbl).trans k6⟩
  clear hK K
  try simp only [Act.put]
  refine wpAnyH_done (by kernel_rfl) ?_ _
  have hdw : Below w1.heap.size w1 w1.drew := bel_drewN (Below.refl _ _) 1
  have hb3' : Below w1.heap.size w1 w3 := hdw.trans (hn3.mono hdw.size)
  have hmb1 : w1.heap.size ≤ mb := by rw [hmb]; exact hdw.size
  have HB4 := hid (show Below w1.heap.size w1 w4 from hb3'.trans (hk4.below hb3'.size hmb1))
  have HR4 := hid (show w4.heap[r0]? = some (.cells mz 62 (0, 0)) from (HB4.out.block r0 hs1).trans HR1.out)
  have HBW4 := hid (show Below w.heap.size w w4 from HB1.out.trans (HB4.out.mono HB1.out.size))
  have HMA := hid (show ManAt w4 mb b2 b3 b4 S (List.replicate 32 0) (.slice none 0 0) from by unfold ManAt; rw [HMM.out]; exact HM4)
  obtain ⟨d0, d1, d2, d3, d36⟩ := HMA.out.c hz32
  have hmbw : w.heap.size ≤ mb := Nat.le_trans HB1.out.size hmb1
  have hr0mb : r0 < mb := Nat.lt_of_lt_of_le hs1 hmb1
  have HBS4 := hid (HBS.out.below HB4.out)
  have HM4h := hid HM4
  clear hk4 hn3 hmb HM3 HM4 hdw hb3' hHeld hHeld3 hHeld4 HBU HON HIF HIF2 HSZ K0 c0 c1 c2 c3 c4 c5 c6 i2 i3 i4 i5 i6 hl3 HBS HB1 HR1 HB4 hmbb
  have HV := hid (sizes_any (b2 : Int) (b3 : Int) (b4 : Int) w4)
  cases hvc : vcB (b2 : Int) (b3 : Int) (b4 : Int) with
  | false => as_aux_lemma =>
    have HE := hid (show decErr b0 b1 b2 b3 b4 b5 b6 r = 2 from by rw [HE5.out, if_pos (by unfold vnB; rw [hvc]; rfl)])
    rw [hvc] at HV
    clear hvc
    go_wp2_with fail
    refine HV.out.mono ?_
    rintro e w5 ⟨rfl, rfl⟩
    go_wp2_with (refine wpList_store_row (by rfl) 62 (.tmp 2) (.tmp 57) (by rfl) r0 _ mz _ (by rfl) (by first | rfl | kernel_rfl) HR4.out info_man rfl mz_one ?_
                 intro w8 hw8 hk8)
    have hres := run_loadVar_row (P := Tryd.prog) _ _ 62 62 _ (0, 0) _ hw8 Tryd.underlying62 rfl info_man
    exact bodyPost_ret (v := .tuple #[.agg mz, .int .i64 2]) (results_at2D Tryd.results33 rfl hres rfl) rfl (HBAD.out 2 w4 w8 HBW4.out hw8 hk8 HE.out (by decide))
  | true =>
  have hnum : 1 ≤ b2 ∧ b2 ≤ b3 ∧ b3 ≤ b4 ∧ b4 ≤ 255 := by
    unfold vcB at hvc
    simp only [decide_eq_true_eq] at hvc
    omega
  rw [hvc] at HV
  by_cases hS8 : (8192 : Int) < (S : Int)
  case pos => as_aux_lemma =>
    have HE := hid (show decErr b0 b1 b2 b3 b4 b5 b6 r = 2 from by rw [HE5.out, if_pos (by unfold vnB; rw [hvc]; simp; omega)])
    clear hvc
    go_wp2_with fail
    refine HV.out.mono ?_
    rintro e w5 ⟨rfl, rfl⟩
    go_wp2_with (refine wpList_store_row (by rfl) 62 (.tmp 2) (.tmp 57) (by rfl) r0 _ mz _ (by rfl) (by first | rfl | kernel_rfl) HR4.out info_man rfl mz_one ?_
                 intro w8 hw8 hk8)
    have hres := run_loadVar_row (P := Tryd.prog) _ _ 62 62 _ (0, 0) _ hw8 Tryd.underlying62 rfl info_man
    exact bodyPost_ret (v := .tuple #[.agg mz, .int .i64 2]) (results_at2D Tryd.results33 rfl hres rfl) rfl (HBAD.out 2 w4 w8 HBW4.out hw8 hk8 HE.out (by decide))
  have HE6 := hid (show decErr b0 b1 b2 b3 b4 b5 b6 r = finJ r b4 from by rw [HE5.out, if_neg (by unfold vnB; rw [hvc]; simp; omega)])
  clear hvc HE5
  have u1 : IntKind.i64.wrap (32 * (b4 : Int)) = 32 * (b4 : Int) := by rw [IntKind.wrap_i64]; omega
  have u2 : IntKind.i64.wrap (39 + 32 * (b4 : Int)) = 39 + 32 * (b4 : Int) := by rw [IntKind.wrap_i64]; omega
  go_wp2_with fail
  refine HV.out.mono ?_
  rintro e w5 ⟨rfl, rfl⟩
  clear HV
  by_cases hl1 : (n : Int) < 39 + 32 * (b4 : Int)
  case pos => as_aux_lemma =>
    have HE := hid (show decErr b0 b1 b2 b3 b4 b5 b6 r = 4 from by rw [HE6.out]; have h := HLEN.out; exact finJ_short _ _ (by omega))
    go_wp2_with (refine wpList_store_row (by rfl) 62 (.tmp 2) (.tmp 65) (by rfl) r0 _ mz _ (by rfl) (by first | rfl | kernel_rfl) HR4.out info_man rfl mz_one ?_
                 intro w8 hw8 hk8)
    have hres := run_loadVar_row (P := Tryd.prog) _ _ 62 62 _ (0, 0) _ hw8 Tryd.underlying62 rfl info_man
    exact bodyPost_ret (v := .tuple #[.agg mz, .int .i64 4]) (results_at2D Tryd.results33 rfl hres rfl) rfl (HBAD.out 4 w4 w8 HBW4.out hw8 hk8 HE.out (by decide))
  by_cases hl2 : 39 + 32 * (b4 : Int) < (n : Int)
  case pos => as_aux_lemma =>
    have HE := hid (show decErr b0 b1 b2 b3 b4 b5 b6 r = 5 from by rw [HE6.out]; have h := HLEN.out; exact finJ_long _ _ (by omega))
    go_wp2_with (refine wpList_store_row (by rfl) 62 (.tmp 2) (.tmp 73) (by rfl) r0 _ mz _ (by rfl) (by first | rfl | kernel_rfl) HR4.out info_man rfl mz_one ?_
                 intro w8 hw8 hk8)
    have hres := run_loadVar_row (P := Tryd.prog) _ _ 62 62 _ (0, 0) _ hw8 Tryd.underlying62 rfl info_man
    exact bodyPost_ret (v := .tuple #[.agg mz, .int .i64 5]) (results_at2D Tryd.results33 rfl hres rfl) rfl (HBAD.out 5 w4 w8 HBW4.out hw8 hk8 HE.out (by decide))
  have hrl : r.length = 32 * (b4 + 1) := by have h := HLEN.out; omega
  have HE := hid (show decErr b0 b1 b2 b3 b4 b5 b6 r = 0 from by rw [HE6.out]; exact finJ_eq _ _ hrl)
  clear HE6
  have HP := hid (show Calls Tryd.prog 60 #[.slice (some ⟨b, o, none⟩) n c, .int .i64 7] w4 (fun e w' => e = .returned (.agg (u8s (dJ r 0)).toArray) ∧ Below w4.heap.size w4 w') from by
    rw [dJ_ok r 0 (by omega)]
    exact part_any b o n c 7 _ w4 HBS4.out (by omega) hn)
  have hd32 := dJ_length r 0
  have HDL := hid (dJ_lt r HLR.out 0)
  generalize hD0 : dJ r 0 = D0 at *
  have HD0 := hid hD0
  have hd32' : (u8s D0).length = 32 := by simp [u8s, hd32]
  have HIFD := hid (show (Tryd.prog.info? 30).map (·.size) = some (u8s D0).toArray.size from by rw [List.size_toArray, hd32']; kernel_rfl)
  have HOND := hid (show (u8s D0).toArray.all (·.oneCell') = true from all_oneCell_toArray (u8s_oneH _))
  have HD32 := hid hd32
  have HD32' := hid hd32'
  clear hD0 hd32 hd32'
  go_wp2_with fail
  refine HP.out.mono ?_
  clear HP
  rintro e wc ⟨rfl, hbc⟩
  have HMC := hid (show wc.heap[mb]? = some (.cells M.toArray 62 (0, 0)) from (hbc.block mb (lt_of_heap HM4h.out)).trans HM4h.out)
  have HRC := hid (show wc.heap[r0]? = some (.cells mz 62 (0, 0)) from (hbc.block r0 (lt_of_heap HR4.out)).trans HR4.out)
  have HBC := hid (show Below w.heap.size w wc from HBW4.out.trans (hbc.mono HBW4.out.size))
  clear hbc HMA HR4 HBW4 HM4h HBS4 d0 d1 d2 d3 d36
  have HMF := hid (fun (wy : World) (h : wy.heap[mb]? = some (.cells (M.take 4 ++ u8s D0 ++ M.drop (4 + (u8s D0).length)).toArray 62 (0, 0))) => (show ManAt wy mb b2 b3 b4 S D0 (.slice none 0 0) from by
    rw [← HMM.out, man_od _ _ _ _ _ _ _ hz32 HD32'.out] at h
    exact h))
  go_wp2_with (refine wpList_store_midK (by rfl) 30 (.tmp 76) (.tmp 75) (by rfl) mb 4 (u8s D0) M 62 (by rfl) (by rfl) HMC.out (by rw [HD32'.out, HML.out]; omega) HIFD.out HOND.out ?_
               intro wd hwd hkd
               have HMD := hid (HMF.out wd hwd)
               have HKD := hid hkd
               clear hwd hkd)
  have HL0 := hid (show OfL w wd r0 mb r b2 b3 b4 S D0 0 (.slice none 0 0) from ⟨(HKD.out.block r0 (lt_of_heap HRC.out) (by omega)).trans HRC.out, HMD.out, ⟨rfl, .inl ⟨rfl, rfl⟩⟩, HBC.out.trans (HKD.out.below HBC.out.size hmbw), by rw [← HR0.out]; exact ⟨Nat.le_refl _, hr0mb⟩⟩)
  clear HMD HKD HRC HBC HMC HMF
  obtain ⟨hn1, hn2, hn3, hn4⟩ := hnum
  go_loopw [5] (fun iv wr => ∃ (i : Nat) (v : Value), i ≤ b4 ∧ iv = .int .i64 i ∧ Hid (OfL w wr r0 mb r b2 b3 b4 S D0 i v)) (fun iv _ => b4 - (intOf iv).toNat)
  case atStart => exact ⟨0, _, by omega, rfl, HL0⟩
  case round =>
    clear HL0
    obtain ⟨i, v, hi, rfl, HL⟩ := hrel
    have d2 := (HL.out.man.c HD32.out).2.2.1
    by_cases hit : i < b4
    case pos => as_aux_lemma =>
      have hI : (i : Int) < (b4 : Int) := by omega
      obtain ⟨q, hq⟩ : ∃ q, q = 39 + 32 * i := ⟨_, rfl⟩
      have v1 : IntKind.i64.wrap (32 * (i : Int)) = 32 * (i : Int) := by rw [IntKind.wrap_i64]; omega
      have v2 : IntKind.i64.wrap (39 + 32 * (i : Int)) = (q : Int) := by rw [IntKind.wrap_i64]; omega
      have v3 : 39 + 32 * (i : Int) = (q : Int) := by omega
      have v4 : IntKind.i64.wrap (q : Int) = (q : Int) := by rw [IntKind.wrap_i64]; omega
      have d36 : wr.cell? ⟨mb, 36, none⟩ = some v := (HL.out.man.c HD32.out).2.2.2.2
      have HDW := hid (show Below wr.heap.size wr wr.drew from bel_drewN (Below.refl _ _) 1)
      have HPD := hid (fun (wx : World) (k : Below wr.heap.size wr wx) => (show Calls Tryd.prog 60 #[.slice (some ⟨b, o, none⟩) n c, .int .i64 (q : Int)] wx (fun e w' => e = .returned (.agg (u8s (dJ r (i + 1))).toArray) ∧ Below wx.heap.size wx w') from by
        have h := part_any b o n c q _ wx (HBW.out.below (HL.out.bel.trans (k.mono HL.out.bel.size))) (by omega) hn
        rw [dJ_ok r (i + 1) (by omega)]
        rw [hq, show 39 + 32 * i = 32 * (i + 1) + 7 from by omega] at h ⊢
        exact h))
      have HSTP := hid (fun (w5 : World) (k : Below wr.drew.heap.size wr.drew w5) (ob : Obj) (g cp : Nat) (w6 : World) (ho : w6.ownsRow (mb + 1) 30 32 (.slice (some ⟨g, 0, none⟩) (i + 1) cp) (i + 1) (dcl ((List.range i).map fun j => dJ r (j + 1)) ++ u8s (dJ r (i + 1)))) (hg : (w5.alloc ob).grownBy w6 v.ownBlock) => OfL.step HL.out HD32.out k hg ho)
      have HFA := hid (fun (w5 : World) (k : Below wr.drew.heap.size wr.drew w5) (ob : Obj) (w6 : World) (hg : (w5.alloc ob).grownBy w6 v.ownBlock) => OfL.far HL.out k hg)
      have HOWN := hid HL.out.own
      have hE32 := dJ_length r (i + 1)
      have BS := fill_dig (dJ r (i + 1)) hE32
      have hEl : (u8s (dJ r (i + 1))).length = 32 := by simp [u8s, hE32]
      generalize dJ r (i + 1) = E at *
      generalize dcl ((List.range i).map fun j => dJ r (j + 1)) = X at *
      have HE32 := hid hE32
      have hmbl : mb < wr.heap.size := lt_of_heap HL.out.man
      have f36 : wr.frozen? ⟨mb, 36, none⟩ = false := free_of_heap HL.out.man 36
      have HKC := hid (fun (w5 : World) (k : Below wr.drew.heap.size wr.drew w5) => (show w5.cell? ⟨mb, 36, none⟩ = some v from (World.cell?_of_block (a := ⟨mb, 36, none⟩) (k.block mb (by simpa using hmbl))).trans d36))
      have HKA := hid (fun (w5 : World) (k : Below wr.drew.heap.size wr.drew w5) (ob : Obj) => (show (w5.alloc ob).cell? ⟨mb, 36, none⟩ = some v from (World.cell?_of_block (a := ⟨mb, 36, none⟩) (heap_alloc_old _ _ (Nat.lt_of_lt_of_le hmbl (by simpa using k.size)))).trans (HKC.out w5 k)))
      have HP := hid (fun (w5 : World) (k : Below wr.drew.heap.size wr.drew w5) (ob : Obj) (w6 : World) (hg : (w5.alloc ob).grownBy w6 v.ownBlock) => (show w6.cell? ⟨mb, 36, none⟩ = some v ∧ w6.frozen? ⟨mb, 36, none⟩ = false from
        ⟨(World.cell?_of_block (a := ⟨mb, 36, none⟩) (HFA.out w5 k ob w6 hg mb (Nat.le_refl _))).trans d36, (World.frozen?_of_block (a := ⟨mb, 36, none⟩) (HFA.out w5 k ob w6 hg mb (Nat.le_refl _))).trans f36⟩))
      have HOW := hid (fun (w5 : World) (k : Below wr.drew.heap.size wr.drew w5) (ob : Obj) => (show (w5.alloc ob).ownsRow (mb + 1) 30 32 v i X from
        (owns_belowG HOWN.out (HDW.out.trans k)).alloc _))
      have HBE := hid (fun (w5 : World) (k : Below wr.drew.heap.size wr.drew w5) (ob : Obj) => (show mb + 1 ≤ (w5.alloc ob).heap.size from by have h := k.size; simp at h ⊢; omega))
      clear hE32 hq
      go_wp2
      go_region_law (first
        | (go_simp
           go_at_call 60
           refine (HPD.out _ HDW.out).mono ?_
           rintro e w5 ⟨rfl, hb5⟩
           have K1 := HKC.out w5 hb5
           have K2 := HKA.out w5 hb5)
        | (refine step_dig_lies (by rfl) (.tmp 84) (.tmp 90) (by rfl) (mb + 1) i v X (by rfl) (HOW.out w5 hb5 _) w5.heap.size E (by rfl) (by exact heap_new _ _) HE32.out (by omega) (HBE.out w5 hb5 _) ?_
           intro g6 c6 w6 hown6 hg6 hlt6
           have hk5 := HP.out w5 hb5 _ w6 hg6
           have k61 := hk5.1
           have k62 := hk5.2
           clear hk5))
      all_goals
        have HL2 := hid (HSTP.out w5 hb5 _ _ _ w6 hown6 hg6)
        clear hown6 hg6 hb5 K1 K2
        go_wp2
        exact ⟨⟨i + 1, _, by omega, by go_num, HL2⟩, by simp [intOf]; omega⟩
    case neg => as_aux_lemma =>
      obtain rfl : i = b4 := by omega
      have hI : ¬ ((i : Int) < (i : Int)) := by omega
      obtain ⟨gd, cp, rfl, hgl, hglt⟩ := World.ownsRow.form HL.out.own (by omega)
      have HDG := hid (dgs_of_owns HL.out.own (fun d hd => by
        obtain ⟨j, _, rfl⟩ := List.mem_map.1 hd
        exact ⟨dJ_length _ _, dJ_lt r HLR.out _⟩) (by simp))
      have HRA := hid (show wr.rangeAt mb 0 (mcells b2 b3 i S D0 (.slice (some ⟨gd, 0, none⟩) i cp)) from range_of_heapD HL.out.man)
      have HML2 := hid (mcells_length b2 b3 i S D0 (.slice (some ⟨gd, 0, none⟩) i cp) HD32.out)
      have HON2 := hid (mcells_one b2 b3 i S D0 (some ⟨gd, 0, none⟩) i cp)
      generalize hM2 : mcells b2 b3 i S D0 (.slice (some ⟨gd, 0, none⟩) i cp) = M2 at *
      have HM2 := hid hM2
      have HIFa := hid (show (Tryd.prog.info? 62).map (·.size) = some M2.length from by rw [HML2.out]; kernel_rfl)
      have HIFb := hid (show (Tryd.prog.info? 62).map (·.size) = some M2.toArray.size from by rw [List.size_toArray, HML2.out]; kernel_rfl)
      have HSZb := hid (show mz.size = M2.toArray.size from by rw [mz_size]; rw [List.size_toArray, HML2.out])
      have hlow := HL.out.low
      clear hM2
      go_wp2_with (first
        | (refine wpList_load_mid (by rfl) 62 (.tmp 4) (by rfl) mb 0 (by rfl) M2 _ HRA.out Tryd.underlying62 rfl HIFa.out ?_)
        | (refine wpList_store_row (by rfl) 62 (.tmp 2) (.tmp 93) (by rfl) r0 _ M2.toArray _ (by rfl) (by rfl) HL.out.res HIFb.out HSZb.out HON2.out ?_
           intro w8 hw8 hk8))
      have hres := run_loadVar_row (P := Tryd.prog) _ _ 62 62 _ (0, 0) _ hw8 Tryd.underlying62 rfl HIFb.out
      refine bodyPost_ret (v := .tuple #[.agg M2.toArray, .int .i64 0]) (results_at2D Tryd.results33 rfl hres rfl) rfl ⟨fun h => absurd HE.out h, fun _ => ⟨gd, cp, by omega, ?_, ?_, ?_⟩⟩
      · rw [← HM2.out, HD0.out, HS.out]
      · obtain ⟨a', c', e, hd, _⟩ := HDG.out
        cases e
        exact hd.kept hk8 (fun ad e => by cases e; show gd ≠ r0; omega)
      · exact HL.out.bel.trans (hk8.below HL.out.bel.size (by rw [HR0.out]; exact Nat.le_refl _))
end Go.Proofs.YteaidpbopgjleaaDoor
