/-
  The reference's peers and Chosen: the best one first, again and again. · The reference's Ranking, Duty, Sources and Covered. · The reference's Duty and Covered; Sources of place. · Sources of place. · The methods of a nil Claims and of a nil Gather. · own: a copy of a manifest and of a piece. · Manifest of a nil Gather; an offer that came in. · The mathematics of PlaceSafe: pieces are dropped only behind better ones that are held.
-/
import Derived.Test.YtjgiiciniplbnaaGreatDoorKb2
import Derived.Test.YtjgiiciniplbnaaGreatDoorKb1
import Derived.Test.YtjgiiciniplbnaaGreatDoorKa9
namespace Go.Proofs.YtjgiiciniplbnaaGreatDoor
open Go Go.RowKit Go.Lib Go.Sort
set_option linter.unusedVariables false

theorem sel_step (obj : List Nat) (RL LL : List Nat) (k b : Nat) (hp : LL.Perm (RL.drop k)) (hs : RL.Pairwise fun x y => cfN obj x y < 0) (hb : b < LL.length)
    (hmin : ∀ j, j < LL.length → j ≠ b → cfN obj (LL.getD b 0) (LL.getD j 0) < 0) : k < RL.length ∧ LL.getD b 0 = RL.getD k 0 ∧ (LL.take b ++ LL.drop (b + 1)).Perm (RL.drop (k + 1)) := by
  have hl := hp.length_eq
  rw [List.length_drop] at hl
  have hk : k < RL.length := by omega
  have hd := List.drop_eq_getElem_cons hk
  have hs2 := hs.sublist (List.drop_sublist k RL)
  rw [hd, List.pairwise_cons] at hs2
  rw [hd] at hp
  have hx : LL.getD b 0 = LL[b] := by rw [List.getD_eq_getElem?_getD, List.getElem?_eq_getElem hb]; rfl
  have hy : RL.getD k 0 = RL[k] := by rw [List.getD_eq_getElem?_getD, List.getElem?_eq_getElem hk]; rfl
  have hxy : LL[b] = RL[k] := by
    have h1 : LL[b] ∈ RL[k] :: RL.drop (k + 1) := hp.mem_iff.1 (List.getElem_mem _)
    rw [List.mem_cons] at h1
    rcases h1 with h1 | h1
    · exact h1
    · have h2 := hs2.1 _ h1
      have h3 : RL[k] ∈ LL := hp.mem_iff.2 List.mem_cons_self
      obtain ⟨j, hj, e⟩ := List.getElem_of_mem h3
      by_cases hjb : j = b
      · subst hjb; exact e
      · have h4 := hmin j hj hjb
        have hz : LL.getD j 0 = LL[j] := by rw [List.getD_eq_getElem?_getD, List.getElem?_eq_getElem hj]; rfl
        rw [hx, hz, e] at h4
        have h5 := cfN_neg obj LL[b] RL[k]
        omega
  refine ⟨hk, by rw [hx, hy, hxy], ?_⟩
  have h6 : LL = LL.take b ++ LL[b] :: LL.drop (b + 1) := by
    rw [← List.drop_eq_getElem_cons hb, List.take_append_drop]
  have h7 : LL.Perm (LL[b] :: (LL.take b ++ LL.drop (b + 1))) := by
    have := @List.perm_middle Nat LL[b] (LL.take b) (LL.drop (b + 1))
    rwa [← h6] at this
  have h8 := h7.symm.trans hp
  rw [hxy] at h8
  exact List.Perm.cons_inv h8
theorem best_new (obj LL : List Nat) (b i : Nat) (hbi : b < i) (h : ∀ j, j < i → j ≠ b → cfN obj (LL.getD b 0) (LL.getD j 0) < 0) (hc : cfN obj (LL.getD i 0) (LL.getD b 0) < 0) : ∀ j, j < i + 1 → j ≠ i → cfN obj (LL.getD i 0) (LL.getD j 0) < 0 := fun j hj hji => by
  by_cases e : j = b
  · subst e; exact hc
  · exact cfN_trans obj _ _ _ hc (h j (by omega) e)
theorem best_old (obj LL : List Nat) (b i : Nat) (hbi : b < i) (hi : i < LL.length) (hn : LL.Nodup) (h : ∀ j, j < i → j ≠ b → cfN obj (LL.getD b 0) (LL.getD j 0) < 0) (hc : ¬ cfN obj (LL.getD i 0) (LL.getD b 0) < 0) : ∀ j, j < i + 1 → j ≠ b → cfN obj (LL.getD b 0) (LL.getD j 0) < 0 := fun j hj hjb => by
  by_cases e : j = i
  · subst e
    have h5 := cfN_neg obj (LL.getD j 0) (LL.getD b 0)
    by_cases h0 : cfN obj (LL.getD b 0) (LL.getD j 0) = 0
    · have h6 := cfN_zero obj _ _ h0
      have hb : b < LL.length := by omega
      rw [List.getD_eq_getElem?_getD, List.getElem?_eq_getElem hb, List.getD_eq_getElem?_getD, List.getElem?_eq_getElem hi] at h6
      have h7 := (List.getElem_inj (h₀ := hb) (h₁ := hi) hn).1 h6
      omega
    · omega
  · exact h j (by omega) hjb
theorem fromI (g o n c k : Nat) (h : k ≤ n) (hc : n ≤ c) (w' : World) : (Instr.sliceAt 27 (.slice (some ⟨g, o, none⟩) n c) (some (.int .i64 (k : Int))) none none).run Tryz.prog w' = .ok (.slice (some (if c = k then (⟨g, o, none⟩ : Addr) else ⟨g, o + k, none⟩)) (n - k) (c - k)) w' := by
  have u1 : (k : Int) ≤ (n : Int) := by omega
  have u2 : (0 : Int) ≤ (k : Int) := by omega
  by_cases hk : c = k
  · simp [go_sem, Tryz.underlying27, Tryz.sizeOf3, u1, u2, hk]
  · simp [go_sem, Tryz.underlying27, Tryz.sizeOf3, u1, u2, hk]
theorem run_slice_opI {P : Program} {ev : Operand → Value} {o : Oper} {ty : TypeId} {x : Operand} {lo hi mx : Option Operand} {w : World} {v xv : Value} {lv hv mv : Option Value} (h : (Instr.sliceAt ty xv lv hv mv).run P w = .ok v w) (ho : o.op = .slice ty x lo hi mx := by rfl) (hx : ev x = xv := by rfl) (hl : lo.map ev = lv := by rfl) (hh : hi.map ev = hv := by rfl) (hm : mx.map ev = mv := by rfl) :
    (execOp ev o).run P w = .ok (.value v) w := by
  subst hx hl hh hm
  unfold execOp
  simp only [ho]
  simp [h]
/-- the beginning and the rest of a list in memory -/
theorem Is.takeI {w : World} {g o n c : Nat} {l : List Int} (h : Is w (.slice (some ⟨g, o, none⟩) n c) l) (k : Nat) (hk : k ≤ n) : Is w (.slice (some ⟨g, o, none⟩) k c) (l.take k) := by
  obtain ⟨a', c', h1, h2, h3⟩ := h
  simp only [Value.slice.injEq] at h1
  obtain ⟨rfl, rfl, rfl⟩ := h1
  have hl : (l.take k).length = k := by rw [List.length_take]; omega
  refine ⟨_, c, by rw [hl], fun x hx => h2 x (List.mem_of_mem_take hx), fun hne => ?_⟩
  have hl0 : l ≠ [] := by rintro rfl; simp at hne
  obtain ⟨b, o', ha, hc⟩ := h3 hl0
  refine ⟨b, o', ha, fun i hi => ?_⟩
  rw [hl] at hi
  rw [hc i (by omega), List.getD_eq_getElem?_getD, List.getD_eq_getElem?_getD, List.getElem?_take_of_lt hi]
theorem Is.dropI {w : World} {g o n c : Nat} {l : List Int} (h : Is w (.slice (some ⟨g, o, none⟩) n c) l) (hnc : n ≤ c) (k : Nat) (hk : k ≤ n) : Is w (.slice (some (if c = k then (⟨g, o, none⟩ : Addr) else ⟨g, o + k, none⟩)) (n - k) (c - k)) (l.drop k) := by
  obtain ⟨a', c', h1, h2, h3⟩ := h
  simp only [Value.slice.injEq] at h1
  obtain ⟨rfl, rfl, rfl⟩ := h1
  have hl : (l.drop k).length = l.length - k := by rw [List.length_drop]
  refine ⟨_, _, by rw [hl], fun x hx => h2 x (List.mem_of_mem_drop hx), fun hne => ?_⟩
  have hlt : k < l.length := by
    rcases Nat.lt_or_ge k l.length with h | h
    · exact h
    · exact absurd (List.drop_eq_nil_of_le h) hne
  rw [if_neg (by omega)]
  obtain ⟨b, o', ha, hc⟩ := h3 (by rintro rfl; simp at hlt)
  simp only [Option.some.injEq, Addr.mk.injEq] at ha
  obtain ⟨rfl, rfl, _⟩ := ha
  refine ⟨g, o + k, rfl, fun i hi => ?_⟩
  rw [Nat.add_assoc, hc (k + i) (by omega), List.getD_eq_getElem?_getD, List.getD_eq_getElem?_getD, List.getElem?_drop]
theorem getD_mapN (l : List Nat) (i : Nat) (h : i < l.length) : (l.map Int.ofNat).getD i 0 = ((l.getD i 0 : Nat) : Int) := by
  rw [List.getD_eq_getElem?_getD, List.getElem?_eq_getElem (by simpa using h), List.getElem_map, List.getD_eq_getElem?_getD, List.getElem?_eq_getElem h]
  rfl
theorem owns_ltZ {w : World} {base size : Nat} {e : TypeId} {v : Value} {m : Nat} {xs : List Value} (h : w.ownsRow base e size v m xs) : ∀ q, v.ownBlock = some q → q < w.heap.size := fun q hq => by
  obtain ⟨_, h2⟩ := h
  rcases h2 with ⟨rfl, _⟩ | ⟨g, cap, cur, rfl, _, hg, _⟩
  · cases hq
  · cases hq; exact lt_of_heap hg
theorem wfN (l : List Nat) (h : ∀ x ∈ l, x < 1000000) : ∀ n ∈ l.map Int.ofNat, (Lit.int .i64 n).wf = true := fun n hn => by
  obtain ⟨y, hy, rfl⟩ := List.mem_map.1 hn
  have := h y hy
  simp [Lit.wf]
  have e1 : IntKind.i64.min = -9223372036854775808 := rfl
  have e2 : IntKind.i64.max = 9223372036854775807 := rfl
  omega
theorem run_build0I (w : World) : (Instr.buildSlice 27 0 #[]).run Tryz.prog w = .ok (.slice (some ⟨w.heap.size, 0, none⟩) 0 0) (w.alloc (.cells #[] 3)) := by
  simp [go_sem]
theorem step_build0I {ops : Array Oper} {o : Oper} {a : Act} {w : World} {K : Act → World → Prop} {Q : Exit → Act → World → Prop} {E : Prop} (hgd : o.guard = none) (ho : o.op = .buildSlice 27 0 #[])
    (h : ∀ g w', g = w.heap.size → w'.heap[g]? = some (.cells #[] 3 (0, 0)) → Below w.heap.size w w' → g < w'.heap.size → K (a.put o.dst (.slice (some ⟨g, 0, none⟩) 0 0)) w') : if Region.wanted o (yielded ops a.tmps) = true then Oper.wp Tryz.prog o a w K Q else E := by
  refine step_value (P := Tryz.prog) hgd (v := .slice (some ⟨w.heap.size, 0, none⟩) 0 0) (w' := w.alloc (.cells #[] 3)) ?_ (h w.heap.size _ rfl (heap_new _ _) ((Below.refl _ _).alloc (Nat.le_refl _) _) (by simp))
  have h1 := run_build0I w
  unfold execOp
  simp only [ho]
  simp [h1]
/-- the length of a slice -/
def lenV : Value → Nat
  | .slice _ n _ => n
  | _ => 0

set_option maxRecDepth 100000 in
set_option maxHeartbeats 4000000 in
theorem rpeers_any (a : Option Addr) (n c : Nat) (li : List Int) (w : World) (hi : Is w (.slice a n c) li) (hsz : n ≤ 1000000) :
    Calls Tryz.prog 67 #[.slice a n c] w fun e w' => ∃ a' c', e = .returned (.slice a' (memb (setL li) 16).length c') ∧ Is w' (.slice a' (memb (setL li) 16).length c') ((memb (setL li) 16).map Int.ofNat) ∧ (memb (setL li) 16).length ≤ c' ∧ (a' = none → c' = 0) ∧ (∀ ad, a' = some ad → w.heap.size ≤ ad.block ∧ ad.block < w'.heap.size) ∧ Below w.heap.size w w' := by
  have HI := hid hi
  clear hi
  go_enter Tryz.func67, Tryz.ntmps67
  go_wp2
  go_loopw [3, 4] (fun av iv wx => ∃ k : Nat, k ≤ 16 ∧ iv = .int .i64 k ∧ Hid (wx.ownsRow w.heap.size 3 1 av (memb (setL li) k).length (i64z ((memb (setL li) k).map Int.ofNat))) ∧ Hid (Below w.heap.size w wx)) (fun _ iv _ => 16 - (intOf iv).toNat)
  case atStart => exact ⟨0, by omega, rfl, hid (ownsZ_new (heap_new _ _)), hid ((Below.refl _ _).alloc (Nat.le_refl _) _)⟩
  case round =>
    obtain ⟨k, hk, rfl, HOW, HBR⟩ := hrel
    by_cases hk16 : k < 16
    · as_aux_lemma =>
      have hk16' : (k : Int) < 16 := by omega
      have HHAS := hid (Has_any a n c li (k : Int) wr (HI.out.belowP HBR.out) (by omega))
      have HMS := hid (memb_succ (setL li) k)
      have hml := memb_le (setL li) k
      have HWF := hid (show ∀ n ∈ [(k : Int)], (Lit.int .i64 n).wf = true from fun n hn => by
        simp only [List.mem_cons, List.not_mem_nil, or_false] at hn
        subst hn
        simp [Lit.wf]
        have e1 : IntKind.i64.min = -9223372036854775808 := rfl
        have e2 : IntKind.i64.max = 9223372036854775807 := rfl
        omega)
      go_wp2_with fail
      refine HHAS.out.mono ?_
      rintro e w5 ⟨rfl, rfl⟩
      have HSS := hid (show li.contains (k : Int) = setL li k from rfl)
      rw [HSS.out]
      cases hS : setL li k with
      | false =>
        have E1 := hid (show memb (setL li) (k + 1) = memb (setL li) k from by rw [HMS.out, hS]; rfl)
        clear hS HSS
        go_wp2_with fail
        exact ⟨⟨k + 1, by omega, by go_num, by rw [E1.out]; exact HOW, HBR⟩, by simp [intOf]; omega⟩
      | true =>
        have E1 := hid (show memb (setL li) (k + 1) = memb (setL li) k ++ [k] from by rw [HMS.out, hS]; rfl)
        clear hS HSS
        go_wp2_with (
          (have h0 := HWF.out)
          (refine wpList_appendZ (by rfl) (.tmp 13) (.tmp 15) (by rfl) w.heap.size _ (memb (setL li) k).length ((memb (setL li) k).map Int.ofNat) (by rfl) (owns_belowP HOW.out ((Below.refl _ _).alloc (Nat.le_refl _) _)) (by omega) (some ⟨_, 0, none⟩) 1 1 [(k : Int)] (by rfl) (is_i64 _ [(k : Int)] h0) (by intro h; cases h) (by omega) (by omega) (by simp; have := HBR.out.size; omega) ?_)
          (intro v6 w6 hown6 hb6)
          (have HOW6 := hid hown6)
          (have HB6 := hid ((HBR.out.alloc HBR.out.size (.cells #[.int .i64 (k : Int)] 3)).trans hb6))
          (clear hown6 hb6))
        exact ⟨⟨k + 1, by omega, by go_num, by rw [E1.out]; simpa using HOW6, HB6⟩, by simp [intOf]; omega⟩
    · obtain rfl : k = 16 := by omega
      obtain ⟨aa, ac, rfl, -, hac, hisA, hnA, hblA⟩ := is_of_ownsZ HOW.out (fun x hx => by
        obtain ⟨y, hy, rfl⟩ := List.mem_map.1 hx
        have := memb_lt (setL li) 16 y hy
        simp [Lit.wf]
        have e1 : IntKind.i64.min = -9223372036854775808 := rfl
        have e2 : IntKind.i64.max = 9223372036854775807 := rfl
        omega)
      have HEND := hid (show Is wr (.slice aa (memb (setL li) 16).length ac) ((memb (setL li) 16).map Int.ofNat) ∧ (memb (setL li) 16).length ≤ ac ∧ (aa = none → ac = 0) ∧ (∀ ad, aa = some ad → w.heap.size ≤ ad.block ∧ ad.block < wr.heap.size) ∧ Below w.heap.size w wr from ⟨hisA, hac, hnA, hblA, HBR.out⟩)
      clear hisA hac hnA hblA HOW
      go_wp2_with fail
      go_ret
      exact ⟨aa, ac, rfl, HEND.out⟩
set_option maxRecDepth 100000 in
set_option maxHeartbeats 24000000 in
theorem rChosen_any (obj : List Nat) (ho : obj.length = 32) (hlt : ∀ x ∈ obj, x < 256) (a : Option Addr) (n c : Nat) (li : List Int) (N : Int) (w : World) (V : Rnds w) (hi : Is w (.slice a n c) li) (hsz : n ≤ 1000000) :
    Calls Tryz.prog 25 #[.agg (u8s obj).toArray, .slice a n c, .int .i64 N] w fun e w' => ∃ a' c', e = .returned (.slice a' (chosenL obj li N).length c') ∧ Is w' (.slice a' (chosenL obj li N).length c') ((chosenL obj li N).map Int.ofNat) ∧ (chosenL obj li N).length ≤ c' ∧ (a' = none → c' = 0) ∧ Below w.heap.size w w' := by
  obtain ⟨w1, hw1⟩ : ∃ y, y = w.alloc (.cells (u8s obj).toArray 23) := ⟨_, rfl⟩
  have hb1 : Below w.heap.size w w1 := by rw [hw1]; exact (Below.refl _ _).alloc (Nat.le_refl _) _
  have HR0 := hid (show OwnD w1 w.heap.size obj from by rw [hw1]; exact heap_new _ _)
  have HV1 := hid (V.below hb1)
  have HB1 := hid hb1
  have HPE := hid (rpeers_any a n c li w1 (hi.belowP hb1) hsz)
  have HBT := hid (fun (x y : Nat) (wx : World) (h : Below w1.heap.size w1 wx) => rBetter_any obj ho hlt (x : Int) (y : Int) wx (HV1.out.below h))
  obtain ⟨OB, hOB⟩ : ∃ y, y = (u8s obj).toArray := ⟨_, rfl⟩
  have HLD := hid (show ∀ wx, Below w1.heap.size w1 wx → (loadVar 23 ⟨w.heap.size, 0, none⟩).run Tryz.prog wx = .ok (.agg OB) wx from fun wx h => by
    rw [hOB]
    exact load_dig ho ((h.block _ (lt_of_heap HR0.out)).trans HR0.out))
  rw [← hOB] at HBT hw1 ⊢
  have HW1 := hid hw1
  have HCE := hid (show chosenL obj li N = (rkd obj (setL li)).take (chN N (rkd obj (setL li)).length) from rfl)
  have HPM := hid (rkd_perm obj (setL li))
  have HSO := hid (rkd_sorted obj (setL li))
  have HND := hid (rkd_nodup obj (setL li))
  have HRL := hid (rkd_lt obj (setL li))
  have hr16 : (rkd obj (setL li)).length ≤ 16 := by rw [rkd_length]; exact memb_le _ _
  generalize chosenL obj li N = CL at *
  generalize rkd obj (setL li) = RL at *
  generalize memb (setL li) 16 = ML at *
  have hcn : chN N RL.length ≤ RL.length := chN_le _ _
  have HCN := hid (show ((chN N RL.length : Nat) : Int) = min (max N 0) (RL.length : Int) from (chN_int _ _).symm)
  generalize chN N RL.length = M at *
  clear V hb1 hw1 hi hOB ho hlt hsz
  go_enter Tryz.func25, Tryz.ntmps25
  go_upto_region 1 with fail
  rw [← HW1.out]
  clear HW1
  go_wp2_with fail
  refine HPE.out.mono ?_
  rintro e w2 ⟨pa, pc, rfl, hi2, hpc, hpn, hpb, hb2⟩
  have HI2 := hid hi2
  have HPN := hid hpn
  have HPB := hid hpb
  have HB2 := hid hb2
  clear hi2 hpn hpb hb2 HPE
  go_wp2_with fail
  go_loopw [7, 8] (fun lv ov wx => ∃ (LL : List Nat) (k : Nat) (la : Option Addr) (lc : Nat), LL.Perm (RL.drop k) ∧ k ≤ RL.length ∧ ((k : Int) ≤ N ∨ k = 0) ∧ lv = .slice la LL.length lc ∧ LL.length ≤ lc ∧ Hid (la = none → lc = 0) ∧ Hid (Is wx (.slice la LL.length lc) (LL.map Int.ofNat)) ∧ Hid (wx.ownsRow w2.heap.size 3 1 ov k (i64z ((RL.take k).map Int.ofNat))) ∧ Hid (∀ ad, la = some ad → some ad.block ≠ ov.ownBlock) ∧ Hid (w2.heap.size ≤ wx.heap.size) ∧ Hid (Below w1.heap.size w1 wx)) (fun lv _ _ => lenV lv)
  case atStart =>
    refine ⟨ML, 0, pa, pc, HPM.out.symm, by omega, .inr rfl, rfl, hpc, HPN, hid (HI2.out.belowP ((Below.refl _ _).alloc (Nat.le_refl _) _)), hid (ownsZ_new (heap_new _ _)), hid (fun ad h e => ?_), hid (by simp), hid (HB2.out.alloc HB2.out.size _)⟩
    have h1 := (HPB.out ad h).2
    have h2 : ad.block = w2.heap.size := Option.some.inj e
    omega
  case round =>
    obtain ⟨LL, k, la, lc, hp, hkR, hkN, rfl, hlc, HLN, HIL, HOW, HNE, HBASE, HBR⟩ := hrel
    obtain ⟨wl, rfl⟩ : ∃ y, y = wr := ⟨wr, rfl⟩
    obtain ⟨oa, oc, rfl, -, hoc, hisO, hnO, hblO⟩ := is_of_ownsZ HOW.out (fun x hx => by
      obtain ⟨y, hy, rfl⟩ := List.mem_map.1 hx
      have := HRL.out y (List.mem_of_mem_take hy)
      simp [Lit.wf]
      have e1 : IntKind.i64.min = -9223372036854775808 := rfl
      have e2 : IntKind.i64.max = 9223372036854775807 := rfl
      omega)
    have HIO := hid hisO
    have HNO := hid hnO
    have HBO := hid hblO
    have hll := hp.length_eq
    rw [List.length_drop] at hll
    have HLLE := hid hll
    have HP := hid hp
    clear hisO hnO hblO hp
    have HEXIT := hid (show (LL.length = 0 ∨ ¬ (k : Int) < N) → CL = RL.take k ∧ CL.length = k from fun h => by
      have hm := HCN.out
      have e : M = k := by omega
      rw [HCE.out, e]
      exact ⟨rfl, by rw [List.length_take]; omega⟩)
    rcases Nat.eq_zero_or_pos LL.length with hl0 | hl0
    · obtain ⟨e1, e2⟩ := HEXIT.out (.inl hl0)
      have h0 : ¬ (0 : Int) < (LL.length : Int) := by omega
      have hbe := HB1.out.trans (HBR.out.mono HB1.out.size)
      have HBE := hid hbe
      clear hbe
      have e2' := hid e2
      have e1' := hid e1
      clear e1 e2 hl0 hll
      go_wp2_with fail
      go_ret
      exact ⟨oa, oc, (by rw [e2'.out]; rfl), by rw [e2'.out, e1'.out]; exact HIO.out, by rw [e2'.out]; exact hoc, HNO.out, HBE.out⟩
    by_cases hkn : (k : Int) < N
    · have hl0' : (0 : Int) < (LL.length : Int) := by omega
      obtain ⟨gb, go, rfl, cx0⟩ := HIL.out.atP 0 hl0
      have HGB := hid (World.block_lt_of_cell? _ _ cx0)
      have HCX := hid (fun (i : Nat) (hi : i < LL.length) (wx : World) (h : Below wl.heap.size wl wx) => (show wx.cell? ⟨gb, go + i, none⟩ = some (.int .i64 ((LL.getD i 0 : Nat) : Int)) from by
        obtain ⟨b', o', e, hc⟩ := (HIL.out.belowP h).atP i hi
        cases e
        rw [hc, getD_mapN LL i hi]))
      have HNL := hid (show LL.Nodup from (HP.out.nodup_iff).2 (HND.out.sublist (List.drop_sublist k RL)))
      have hll16 : LL.length ≤ 16 := by omega
      clear cx0 HEXIT hll
      go_wp2_with fail
      go_loopw [9, 10] (fun bv iv wx => ∃ b i : Nat, 1 ≤ i ∧ i ≤ LL.length ∧ b < i ∧ bv = .int .i64 b ∧ iv = .int .i64 i ∧ Hid (∀ j, j < i → j ≠ b → cfN obj (LL.getD b 0) (LL.getD j 0) < 0) ∧ Hid (Below wl.heap.size wl wx)) (fun _ iv _ => LL.length - (intOf iv).toNat)
      case atStart => exact ⟨0, 1, by omega, by omega, by omega, rfl, rfl, hid (fun j h1 h2 => by omega), hid (Below.refl _ _)⟩
      case round =>
        obtain ⟨b, i, h1i, hiL, hbi, rfl, rfl, HBS, HBI⟩ := hrel
        by_cases hil : i < LL.length
        · as_aux_lemma =>
          have hil' : (i : Int) < (LL.length : Int) := by omega
          have hbl' : (b : Int) < (LL.length : Int) := by omega
          have HNEW := hid (best_new obj LL b i hbi HBS.out)
          have HOLD := hid (best_old obj LL b i hbi hil HNL.out HBS.out)
          have HBX := hid (HBR.out.trans (HBI.out.mono HBR.out.size))
          have HBT2 := hid (fun (wx : World) (h : Below wr.heap.size wr wx) => HBT.out (LL.getD i 0) (LL.getD b 0) wx (HBX.out.trans (h.mono HBX.out.size)))
          have HCI := hid (fun (wx : World) (h : Below wr.heap.size wr wx) => HCX.out i hil wx (HBI.out.trans (h.mono HBI.out.size)))
          have HCB := hid (fun (wx : World) (h : Below wr.heap.size wr wx) => HCX.out b (by omega) wx (HBI.out.trans (h.mono HBI.out.size)))
          obtain ⟨D, hD⟩ : ∃ D, D = decide (cmpP obj ((LL.getD i 0 : Nat) : Int) ((LL.getD b 0 : Nat) : Int) < 0) := ⟨_, rfl⟩
          have HNEWD := hid (fun (h : D = true) => HNEW.out (of_decide_eq_true (hD.symm.trans h)))
          have HOLDD := hid (fun (h : D = false) => HOLD.out (of_decide_eq_false (hD.symm.trans h)))
          rw [← hD] at HBT2
          clear hD HNEW HOLD HBS
          generalize hX : LL.getD i 0 = X at *
          generalize hY : LL.getD b 0 = Y at *
          have HKP := hid (show ∀ wx, Below wr.heap.size wr wx → Below wr.heap.size wr wx ∧ wx.cell? ⟨gb, go + i, none⟩ = some (.int .i64 (X : Int)) ∧ wx.cell? ⟨gb, go + b, none⟩ = some (.int .i64 (Y : Int)) ∧ (loadVar 23 ⟨w.heap.size, 0, none⟩).run Tryz.prog wx = .ok (.agg OB) wx from fun wx h => ⟨h, HCI.out wx h, HCB.out wx h, HLD.out wx (HBX.out.trans (h.mono HBX.out.size))⟩)
          clear HCI HCB
          go_upto_region 8 with fail
          refine wp_region_held_drew (S := (fun wx => Below wr.heap.size wr wx ∧ wx.cell? ⟨gb, go + i, none⟩ = some (.int .i64 (X : Int)) ∧ wx.cell? ⟨gb, go + b, none⟩ = some (.int .i64 (Y : Int)) ∧ (loadVar 23 ⟨w.heap.size, 0, none⟩).run Tryz.prog wx = .ok (.agg OB) wx)) (by kernel_rfl) (HKP.out _ (bel_drewN (Below.refl _ _) 1)) (fun hHeld => ?_)
          refine wpAnyH_take (i := 0) (oi := { dst := some 29, op := Op.load 23 (Operand.tmp 3), type := 23, pos := "ref.go:51", after := #[], guard := none }) (v := .agg OB) rfl (by kernel_rfl) (by kernel_rfl) (by kernel_rfl) (fun _ _ _ h => h) (Or.inl ⟨by rfl, ?hy⟩) hHeld ?_
          case hy => (intro w hSw; exact run_load_opP hSw.2.2.2)
          try simp only [Act.put, List.setIfInBounds_toArray, List.set_cons_zero, List.set_cons_succ]
          refine wpAnyH_take (i := 1) (oi := { dst := some 30, op := Op.move (Operand.tmp 7), type := 27, pos := "ref.go:51", after := #[], guard := none }) (v := ?_) rfl (by kernel_rfl) (by kernel_rfl) (by kernel_rfl) (fun _ _ _ h => h) (Or.inl ⟨by rfl, ?hy⟩) hHeld ?_
          case hy => (intro w hSw; (try dsimp only at hSw); obtain ⟨_, _, _, _⟩ := hSw; go_simp; all_goals (with_reducible rfl))
          try simp only [Act.put, List.setIfInBounds_toArray, List.set_cons_zero, List.set_cons_succ]
          refine wpAnyH_take (i := 2) (oi := { dst := some 31, op := Op.move (Operand.tmp 10), type := 3, pos := "ref.go:51", after := #[], guard := none }) (v := ?_) rfl (by kernel_rfl) (by kernel_rfl) (by kernel_rfl) (fun _ _ _ h => h) (Or.inl ⟨by rfl, ?hy⟩) hHeld ?_
          case hy => (intro w hSw; (try dsimp only at hSw); obtain ⟨_, _, _, _⟩ := hSw; go_simp; all_goals (with_reducible rfl))
          try simp only [Act.put, List.setIfInBounds_toArray, List.set_cons_zero, List.set_cons_succ]
          refine wpAnyH_take (i := 3) (oi := { dst := some 32, op := Op.indexAddr 27 (Operand.tmp 30) (Operand.tmp 31), type := 0, pos := "ref.go:51", after := #[{ on := 1, ground := Ground.data }, { on := 2, ground := Ground.data }], guard := none }) (v := ?_) rfl (by kernel_rfl) (by kernel_rfl) (by kernel_rfl) (fun _ _ _ h => h) (Or.inl ⟨by rfl, ?hy⟩) hHeld ?_
          case hy => (intro w hSw; (try dsimp only at hSw); obtain ⟨_, _, _, _⟩ := hSw; go_simp; all_goals (with_reducible rfl))
          try simp only [Act.put, List.setIfInBounds_toArray, List.set_cons_zero, List.set_cons_succ]
          refine wpAnyH_take (i := 4) (oi := { dst := some 33, op := Op.load 3 (Operand.tmp 32), type := 3, pos := "ref.go:51", after := #[{ on := 3, ground := Ground.data }], guard := none }) (v := ?_) rfl (by kernel_rfl) (by kernel_rfl) (by kernel_rfl) (fun _ _ _ h => h) (Or.inl ⟨by rfl, ?hy⟩) hHeld ?_
          case hy => (intro w hSw; (try dsimp only at hSw); obtain ⟨_, _, _, _⟩ := hSw; go_simp; all_goals (with_reducible rfl))
          try simp only [Act.put, List.setIfInBounds_toArray, List.set_cons_zero, List.set_cons_succ]
          refine wpAnyH_take (i := 5) (oi := { dst := some 34, op := Op.move (Operand.tmp 7), type := 27, pos := "ref.go:51", after := #[], guard := none }) (v := ?_) rfl (by kernel_rfl) (by kernel_rfl) (by kernel_rfl) (fun _ _ _ h => h) (Or.inl ⟨by rfl, ?hy⟩) hHeld ?_
          case hy => (intro w hSw; (try dsimp only at hSw); obtain ⟨_, _, _, _⟩ := hSw; go_simp; all_goals (with_reducible rfl))
          try simp only [Act.put, List.setIfInBounds_toArray, List.set_cons_zero, List.set_cons_succ]
          refine wpAnyH_take (i := 6) (oi := { dst := some 35, op := Op.move (Operand.tmp 9), type := 3, pos := "ref.go:51", after := #[], guard := none }) (v := ?_) rfl (by kernel_rfl) (by kernel_rfl) (by kernel_rfl) (fun _ _ _ h => h) (Or.inl ⟨by rfl, ?hy⟩) hHeld ?_
          case hy => (intro w hSw; (try dsimp only at hSw); obtain ⟨_, _, _, _⟩ := hSw; go_simp; all_goals (with_reducible rfl))
          try simp only [Act.put, List.setIfInBounds_toArray, List.set_cons_zero, List.set_cons_succ]
          refine wpAnyH_take (i := 7) (oi := { dst := some 36, op := Op.indexAddr 27 (Operand.tmp 34) (Operand.tmp 35), type := 0, pos := "ref.go:51", after := #[{ on := 5, ground := Ground.data }, { on := 6, ground := Ground.data }], guard := none }) (v := ?_) rfl (by kernel_rfl) (by kernel_rfl) (by kernel_rfl) (fun _ _ _ h => h) (Or.inl ⟨by rfl, ?hy⟩) hHeld ?_
          case hy => (intro w hSw; (try dsimp only at hSw); obtain ⟨_, _, _, _⟩ := hSw; go_simp; all_goals (with_reducible rfl))
          try simp only [Act.put, List.setIfInBounds_toArray, List.set_cons_zero, List.set_cons_succ]
          refine wpAnyH_take (i := 8) (oi := { dst := some 37, op := Op.load 3 (Operand.tmp 36), type := 3, pos := "ref.go:51", after := #[{ on := 7, ground := Ground.data }], guard := none }) (v := ?_) rfl (by kernel_rfl) (by kernel_rfl) (by kernel_rfl) (fun _ _ _ h => h) (Or.inl ⟨by rfl, ?hy⟩) hHeld ?_
          case hy => (intro w hSw; (try dsimp only at hSw); obtain ⟨_, _, _, _⟩ := hSw; go_simp; all_goals (with_reducible rfl))
          try simp only [Act.put, List.setIfInBounds_toArray, List.set_cons_zero, List.set_cons_succ]
          refine wpAnyH_ready (rs := [9]) (by kernel_rfl) (by simp) ?_
          refine AllReadyH.cons (o := { dst := some 38, op := Op.call { callee := Callee.value (Operand.func 18), args := #[Operand.tmp 29, Operand.tmp 33, Operand.tmp 37], argTypes := #[23, 3, 3] }, type := 4, pos := "ref.go:51", after := #[{ on := 0, ground := Ground.data }, { on := 4, ground := Ground.data }, { on := 8, ground := Ground.data }], guard := none }) rfl (fun K hK => ?_) AllReadyH.nil
          go_simp
          refine (HBT2.out _ hHeld.1).mono ?_
          rintro e w9 ⟨rfl, hb9⟩
          have G9 := hHeld.1.trans (hb9.mono hHeld.1.size)
          clear hb9
          clear hHeld
          go_wp2_with fail
          refine hK.out _ _ (HKP.out _ G9) (fun hHeld => ?_)
          clear hK K
          try simp only [Act.put, List.setIfInBounds_toArray, List.set_cons_zero, List.set_cons_succ]
          refine wpAnyH_done (by kernel_rfl) ?_ _
          have HBE := hid (HBI.out.trans (G9.mono HBI.out.size))
          clear G9 hHeld
          cases D with
          | true =>
            go_wp2_with fail
            exact ⟨⟨i, i + 1, by omega, by omega, by omega, rfl, by go_num, hid (by rw [hX]; exact HNEWD.out rfl), HBE⟩, by simp [intOf]; omega⟩
          | false =>
            go_wp2_with fail
            exact ⟨⟨b, i + 1, by omega, by omega, by omega, rfl, by go_num, hid (by rw [hY]; exact HOLDD.out rfl), HBE⟩, by simp [intOf]; omega⟩
        · obtain rfl : i = LL.length := by omega
          obtain ⟨hkR', hxe, hperm⟩ := sel_step obj RL LL k b HP.out HSO.out hbi HBS.out
          have HPE2 := hid hperm
          have hbl' : (b : Int) < (LL.length : Int) := by omega
          have cxb := HCX.out b hbi wr HBI.out
          rw [hxe] at cxb
          have hxs : RL.getD k 0 < 1000000 := HRL.out _ (by rw [List.getD_eq_getElem?_getD, List.getElem?_eq_getElem hkR']; exact List.getElem_mem _)
          have HTK := hid (show RL.take (k + 1) = RL.take k ++ [RL.getD k 0] from by
            rw [List.take_succ_eq_append_getElem hkR', List.getD_eq_getElem?_getD, List.getElem?_eq_getElem hkR']
            rfl)
          have HWFX := hid (wfN [RL.getD k 0] (fun x hx => by
            simp only [List.mem_cons, List.not_mem_nil, or_false] at hx
            subst hx
            exact hxs))
          generalize RL.getD k 0 = x at *
          have HOWR := hid (owns_belowP HOW.out HBI.out)
          have HILR := hid (HIL.out.belowP HBI.out)
          have HBRR := hid (HBR.out.trans (HBI.out.mono HBR.out.size))
          have hszl := HBRR.out.size
          have hk16 : k ≤ 16 := by omega
          have hw2s : w2.heap.size ≤ wr.heap.size := Nat.le_trans HBASE.out HBI.out.size
          clear hperm hxe hxs HBS HCX HOW
          go_wp2_with (
            (have h0 := HWFX.out)
            (refine wpList_appendG (by rfl) (.tmp 40) (.tmp 45) (by rfl) w2.heap.size _ k ((RL.take k).map Int.ofNat) (by rfl) (owns_belowP HOWR.out ((Below.refl _ _).alloc (Nat.le_refl _) _)) (by omega) (some ⟨_, 0, none⟩) 1 1 [(x : Int)] (by rfl) (is_i64 _ [(x : Int)] h0) (by intro h; cases h) (by omega) (by omega) (by simp; omega) ?_)
            (intro v6 w6 hown6 hg6)
            (have HOW6 := hid (show w6.ownsRow w2.heap.size 3 1 v6 (k + 1) (i64z ((RL.take (k + 1)).map Int.ofNat)) from by rw [HTK.out, List.map_append]; exact hown6))
            (have HI6 := hid ((HILR.out.belowP ((Below.refl _ _).alloc (Nat.le_refl _) (.cells #[.int .i64 (x : Int)] 3))).grown hg6 HNE.out))
            (have HB6 := hid ((HBRR.out.alloc HBRR.out.size (.cells #[.int .i64 (x : Int)] 3)).grown hg6 (by simp; omega) (fun q hq => Nat.le_trans HB2.out.size (owns_blockZ HOWR.out q hq))))
            (have HW62 := hid (show w2.heap.size ≤ w6.heap.size from Nat.le_trans (by simp; omega) hg6.size))
            (clear hown6 hg6 h0))
          have HQ6 := hid (owns_ltZ HOW6.out)
          have hw2s2 : w2.heap.size ≤ w6.heap.size := HW62.out
          obtain ⟨b1, hb1⟩ : ∃ y, y = b + 1 := ⟨_, rfl⟩
          have hwr1 : IntKind.i64.wrap ((b : Int) + 1) = (b1 : Int) := by
            rw [hb1, IntKind.wrap_i64]
            omega
          have hb1l : b1 ≤ LL.length := by omega
          have HPE3 := hid (show (LL.take b ++ LL.drop b1).Perm (RL.drop (k + 1)) from by rw [hb1]; exact HPE2.out)
          have HLEN2 := hid (show b + (LL.length - b1) = (LL.take b ++ LL.drop b1).length from by rw [List.length_append, List.length_take, List.length_drop]; omega)
          have HLEN := hid (show 0 + b + (LL.length - b1) = (LL.take b ++ LL.drop b1).length from by rw [List.length_append, List.length_take, List.length_drop]; omega)
          have hlt8 : (LL.take b ++ LL.drop b1).length < LL.length := by rw [List.length_append, List.length_take, List.length_drop]; omega
          have HMAP := hid (show ([] ++ (LL.map Int.ofNat).take b) ++ (LL.map Int.ofNat).drop b1 = (LL.take b ++ LL.drop b1).map Int.ofNat from by rw [List.nil_append, List.map_append, List.map_take, List.map_drop])
          have HWF8 := hid (wfN (LL.take b ++ LL.drop b1) (fun y hy => HRL.out y (List.mem_of_mem_drop (HPE3.out.mem_iff.1 hy))))
          have hs3 : ∀ wx : World, (Instr.sliceAt 27 (.slice (some ⟨gb, go, none⟩) LL.length lc) none (some (.int .i64 (b : Int))) none).run Tryz.prog wx = .ok (.slice (some ⟨gb, go, none⟩) b lc) wx := fun wx => uptoI gb go LL.length lc b (by omega) wx
          obtain ⟨A8, hA8⟩ : ∃ A8 : Addr, A8 = (if lc = b1 then (⟨gb, go, none⟩ : Addr) else ⟨gb, go + b1, none⟩) := ⟨_, rfl⟩
          have hs8 : ∀ wx : World, (Instr.sliceAt 27 (.slice (some ⟨gb, go, none⟩) LL.length lc) (some (.int .i64 (b1 : Int))) none none).run Tryz.prog wx = .ok (.slice (some A8) (LL.length - b1) (lc - b1)) wx := fun wx => by rw [hA8]; exact fromI gb go LL.length lc b1 hb1l hlc wx
          have HD8 := hid (fun (wx : World) (h : Below w6.heap.size w6 wx) => (show Is wx (.slice (some A8) (LL.length - b1) (lc - b1)) ((LL.map Int.ofNat).drop b1) from by rw [hA8]; exact (HI6.out.belowP h).dropI hlc b1 hb1l))
          have HT8 := hid (fun (wx : World) (h : Below w6.heap.size w6 wx) => (HI6.out.belowP h).takeI b (by omega))
          clear hA8 hb1
          go_upto_region 11 with fail
          refine wp_region_held_drew (S := (fun wx : World => Below w6.heap.size w6 wx)) (by kernel_rfl) ((bel_drewN (Below.refl _ _) 1)) (fun hHeld => ?_)
          refine wpAnyH_take (i := 1) (oi := { dst := some 48, op := Op.move (Operand.tmp 7), type := 27, pos := "ref.go:56", after := #[], guard := none }) (v := ?_) rfl (by kernel_rfl) (by kernel_rfl) (by kernel_rfl) (fun _ _ _ h => h) (Or.inl ⟨by rfl, ?hy⟩) hHeld ?_
          case hy => (intro w hSw; (try dsimp only at hSw); go_simp; all_goals (with_reducible rfl))
          try simp only [Act.put, List.setIfInBounds_toArray, List.set_cons_zero, List.set_cons_succ]
          refine wpAnyH_take (i := 2) (oi := { dst := some 49, op := Op.move (Operand.tmp 9), type := 3, pos := "ref.go:56", after := #[], guard := none }) (v := ?_) rfl (by kernel_rfl) (by kernel_rfl) (by kernel_rfl) (fun _ _ _ h => h) (Or.inl ⟨by rfl, ?hy⟩) hHeld ?_
          case hy => (intro w hSw; (try dsimp only at hSw); go_simp; all_goals (with_reducible rfl))
          try simp only [Act.put, List.setIfInBounds_toArray, List.set_cons_zero, List.set_cons_succ]
          refine wpAnyH_take (i := 3) (oi := { dst := some 50, op := Op.slice 27 (Operand.tmp 48) none (some (Operand.tmp 49)) none, type := 27, pos := "ref.go:56", after := #[{ on := 1, ground := Ground.data }, { on := 2, ground := Ground.data }], guard := none }) (v := .slice (some ⟨gb, go, none⟩) b lc) rfl (by kernel_rfl) (by kernel_rfl) (by kernel_rfl) (fun _ _ _ h => h) (Or.inl ⟨by rfl, ?hy⟩) hHeld ?_
          case hy => (intro w hSw; exact run_slice_opI (hs3 w))
          try simp only [Act.put, List.setIfInBounds_toArray, List.set_cons_zero, List.set_cons_succ]
          refine wpAnyH_take (i := 5) (oi := { dst := some 52, op := Op.move (Operand.tmp 7), type := 27, pos := "ref.go:56", after := #[], guard := none }) (v := ?_) rfl (by kernel_rfl) (by kernel_rfl) (by kernel_rfl) (fun _ _ _ h => h) (Or.inl ⟨by rfl, ?hy⟩) hHeld ?_
          case hy => (intro w hSw; (try dsimp only at hSw); go_simp; all_goals (with_reducible rfl))
          try simp only [Act.put, List.setIfInBounds_toArray, List.set_cons_zero, List.set_cons_succ]
          refine wpAnyH_take (i := 6) (oi := { dst := some 53, op := Op.move (Operand.tmp 9), type := 3, pos := "ref.go:56", after := #[], guard := none }) (v := ?_) rfl (by kernel_rfl) (by kernel_rfl) (by kernel_rfl) (fun _ _ _ h => h) (Or.inl ⟨by rfl, ?hy⟩) hHeld ?_
          case hy => (intro w hSw; (try dsimp only at hSw); go_simp; all_goals (with_reducible rfl))
          try simp only [Act.put, List.setIfInBounds_toArray, List.set_cons_zero, List.set_cons_succ]
          refine wpAnyH_take (i := 7) (oi := { dst := some 54, op := Op.binOp BinOp.add 3 (Operand.tmp 53) (Operand.const (Value.int IntKind.i64 1)) 3, type := 3, pos := "ref.go:56", after := #[{ on := 6, ground := Ground.data }], guard := none }) (v := ?_) rfl (by kernel_rfl) (by kernel_rfl) (by kernel_rfl) (fun _ _ _ h => h) (Or.inl ⟨by rfl, ?hy⟩) hHeld ?_
          case hy => (intro w hSw; (try dsimp only at hSw); go_simp; all_goals (with_reducible rfl))
          try simp only [Act.put, List.setIfInBounds_toArray, List.set_cons_zero, List.set_cons_succ]
          refine wpAnyH_take (i := 8) (oi := { dst := some 55, op := Op.slice 27 (Operand.tmp 52) (some (Operand.tmp 54)) none none, type := 27, pos := "ref.go:56", after := #[{ on := 5, ground := Ground.data }, { on := 7, ground := Ground.data }], guard := none }) (v := .slice (some A8) (LL.length - b1) (lc - b1)) rfl (by kernel_rfl) (by kernel_rfl) (by kernel_rfl) (fun _ _ _ h => h) (Or.inl ⟨by rfl, ?hy⟩) hHeld ?_
          case hy => (intro w hSw; exact run_slice_opI (hs8 w))
          try simp only [Act.put, List.setIfInBounds_toArray, List.set_cons_zero, List.set_cons_succ]
          refine wpAnyH_ready (rs := [0]) (by kernel_rfl) (by simp) ?_
          refine AllReadyH.cons (o := { dst := some 47, op := Op.buildSlice 27 0 #[], type := 27, pos := "ref.go:56", after := #[], guard := none }) rfl (fun K hK => ?_) AllReadyH.nil
          refine step_build0I rfl rfl ?_
          intro gE wE hgE hE hbE glE
          have hBE : Below w6.heap.size w6 wE := hHeld.trans (hbE.mono hHeld.size)
          have hloE : w6.heap.size ≤ gE := by rw [hgE]; exact hHeld.size
          have HOWE := hid (show wE.ownsRow w6.heap.size 3 1 (.slice (some ⟨gE, 0, none⟩) 0 0) 0 (i64z []) from ⟨rfl, .inr ⟨gE, 0, #[], rfl, hloE, hE, Nat.le_refl _, Nat.zero_le _, rfl, rfl⟩⟩)
          have HBE := hid hBE
          refine hK.out _ _ hBE (fun hHeld => ?_)
          clear hK K hbE hE hgE hBE
          try simp only [Act.put, List.setIfInBounds_toArray, List.set_cons_zero, List.set_cons_succ]
          refine wpAnyH_ready (rs := [4]) (by kernel_rfl) (by simp) ?_
          refine AllReadyH.cons (o := { dst := some 51, op := Op.call { callee := Callee.builtin Builtin.append, args := #[Operand.tmp 47, Operand.tmp 50], argTypes := #[27, 27] }, type := 27, pos := "ref.go:56", after := #[{ on := 0, ground := Ground.data }, { on := 3, ground := Ground.data }], guard := none }) rfl (fun K hK => ?_) AllReadyH.nil
          refine step_appendG rfl (.tmp 47) (.tmp 50) rfl w6.heap.size (.slice (some ⟨gE, 0, none⟩) 0 0) 0 [] rfl HOWE.out (by omega) (some ⟨gb, go, none⟩) b lc ((LL.map Int.ofNat).take b) rfl (HT8.out _ HBE.out) (by intro h; cases h) (by omega) (by omega) HBE.out.size ?_
          intro v7 w7 hown7 hg7
          have hB7 : Below w6.heap.size w6 w7 := HBE.out.grown hg7 HBE.out.size (owns_blockZ HOWE.out)
          have HB7 := hid hB7
          have HOW7 := hid hown7
          refine hK.out _ _ hB7 (fun hHeld => ?_)
          clear hK K hg7 hB7 hown7
          try simp only [Act.put, List.setIfInBounds_toArray, List.set_cons_zero, List.set_cons_succ]
          refine wpAnyH_ready (rs := [9]) (by kernel_rfl) (by simp) ?_
          refine AllReadyH.cons (o := { dst := some 56, op := Op.call { callee := Callee.builtin Builtin.append, args := #[Operand.tmp 51, Operand.tmp 55], argTypes := #[27, 27] }, type := 27, pos := "ref.go:56", after := #[{ on := 4, ground := Ground.data }, { on := 8, ground := Ground.data }, { on := 4, ground := Ground.chain }], guard := none }) rfl (fun K hK => ?_) AllReadyH.nil
          refine step_appendG rfl (.tmp 51) (.tmp 55) rfl w6.heap.size v7 (0 + b) ([] ++ (LL.map Int.ofNat).take b) rfl HOW7.out (by omega) (some A8) (LL.length - b1) (lc - b1) ((LL.map Int.ofNat).drop b1) rfl (HD8.out _ HB7.out) (by intro h; cases h) (by omega) (by omega) HB7.out.size ?_
          intro v8 w8 hown8 hg8
          have G8 : Below w6.heap.size w6 w8 := HB7.out.grown hg8 HB7.out.size (owns_blockZ HOW7.out)
          rw [HMAP.out] at hown8
          obtain ⟨a8, c8, rfl, -, hc8, his8, hn8, hbl8⟩ := is_of_ownsZ hown8 HWF8.out
          have HI8 := hid his8
          have HN8 := hid hn8
          have HB8 := hid hbl8
          refine hK.out _ _ G8 (fun hHeld => ?_)
          clear hK K hg8 hown8 his8 hn8 hbl8
          try simp only [Act.put, List.setIfInBounds_toArray, List.set_cons_zero, List.set_cons_succ]
          refine wpAnyH_take (i := 10) (oi := { dst := some 7, op := Op.assign (Operand.tmp 56), type := 27, pos := "ref.go:56", after := #[{ on := 9, ground := Ground.data }, { on := 9, ground := Ground.chain }, { on := 0, ground := Ground.phase }, { on := 1, ground := Ground.phase }, { on := 2, ground := Ground.phase }, { on := 3, ground := Ground.phase }, { on := 4, ground := Ground.phase }, { on := 5, ground := Ground.phase }, { on := 6, ground := Ground.phase }, { on := 7, ground := Ground.phase }, { on := 8, ground := Ground.phase }, { on := 9, ground := Ground.phase }], guard := none }) (v := ?_) rfl (by kernel_rfl) (by kernel_rfl) (by kernel_rfl) (fun _ _ _ h => h) (Or.inl ⟨by rfl, ?hy⟩) hHeld ?_
          case hy => (intro w hSw; (try dsimp only at hSw); go_simp; all_goals (with_reducible rfl))
          try simp only [Act.put, List.setIfInBounds_toArray, List.set_cons_zero, List.set_cons_succ]
          refine wpAnyH_done (by kernel_rfl) ?_ _
          go_wp2_with fail
          exact ⟨⟨LL.take b ++ LL.drop b1, k + 1, a8, c8, HPE3.out, by omega, .inl (by omega), by rw [HLEN2.out], by rw [← HLEN.out]; exact hc8, HN8, by rw [← HLEN.out]; exact HI8, hid (owns_belowP HOW6.out G8), hid (fun ad h e => by
            have h1 := (HB8.out ad h).1
            have h2 := HQ6.out ad.block e.symm
            omega), hid (Nat.le_trans hw2s2 G8.size), hid (HB6.out.trans (G8.mono HB6.out.size))⟩, by simp only [lenV]; rw [HLEN2.out]; exact hlt8⟩
    · obtain ⟨e1, e2⟩ := HEXIT.out (.inr hkn)
      have h0 : (0 : Int) < (LL.length : Int) := by omega
      have hbe := HB1.out.trans (HBR.out.mono HB1.out.size)
      have HBE := hid hbe
      clear hbe
      have e2' := hid e2
      have e1' := hid e1
      clear e1 e2 hl0 hll
      go_wp2_with fail
      go_ret
      exact ⟨oa, oc, (by rw [e2'.out]; rfl), by rw [e2'.out, e1'.out]; exact HIO.out, by rw [e2'.out]; exact hoc, HNO.out, HBE.out⟩
end Go.Proofs.YtjgiiciniplbnaaGreatDoor

namespace Go.Proofs.YtjgiiciniplbnaaGreatDoor
open Go Go.RowKit Go.Lib Go.Sort
set_option linter.unusedVariables false

theorem wf_one (k : Nat) (h : k < 1000000) : ∀ n ∈ [(k : Int)], (Lit.int .i64 n).wf = true := wfN [k] (fun x hx => by
  simp only [List.mem_cons, List.not_mem_nil, or_false] at hx
  omega)
theorem range_all (P : Int) (obj : List Nat) (k : Nat) (hk : k = 16 ∨ ¬ (k : Int) < P) (hP : (k : Int) ≤ P ∨ k = 0) (h16 : k ≤ 16) : chosenL obj ((List.range k).map Int.ofNat) 16 = rkd obj (setN P) := by
  have h : rkd obj (setL ((List.range k).map Int.ofNat)) = rkd obj (setN P) := rkd_congr fun i hi => by
    unfold setL setN
    rw [Bool.eq_iff_iff, decide_eq_true_eq, mem_ofNat, List.contains_iff_mem, List.mem_range]
    omega
  rw [chosen_take _ _ _ (by omega), h]
  exact List.take_of_length_le (by rw [rkd_length]; exact memb_le _ _)
set_option maxRecDepth 100000 in
set_option maxHeartbeats 4000000 in
theorem rRanking_any (obj : List Nat) (ho : obj.length = 32) (hlt : ∀ x ∈ obj, x < 256) (P : Int) (w : World) (V : Rnds w) :
    Calls Tryz.prog 21 #[.agg (u8s obj).toArray, .int .i64 P] w fun e w' => ∃ a' c', e = .returned (.slice a' (rkd obj (setN P)).length c') ∧ Is w' (.slice a' (rkd obj (setN P)).length c') ((rkd obj (setN P)).map Int.ofNat) ∧ Below w.heap.size w w' := by
  obtain ⟨w1, hw1⟩ : ∃ y, y = w.alloc (.cells (u8s obj).toArray 23) := ⟨_, rfl⟩
  have hb1 : Below w.heap.size w w1 := by rw [hw1]; exact (Below.refl _ _).alloc (Nat.le_refl _) _
  have HR0 := hid (show OwnD w1 w.heap.size obj from by rw [hw1]; exact heap_new _ _)
  have HV1 := hid (V.below hb1)
  have HB1 := hid hb1
  have HW1 := hid hw1
  have HO := hid ho
  have HLT := hid hlt
  have HIF := hid (infoD obj ho)
  clear V hb1 hw1 ho hlt
  go_enter Tryz.func21, Tryz.ntmps21
  go_upto_region 1 with fail
  rw [← HW1.out]
  clear HW1
  go_wp2_with fail
  go_loopw [5, 6] (fun av iv wx => ∃ k : Nat, k ≤ 16 ∧ ((k : Int) ≤ P ∨ k = 0) ∧ iv = .int .i64 k ∧ Hid (wx.ownsRow w1.heap.size 3 1 av k (i64z ((List.range k).map Int.ofNat))) ∧ Hid (Below w1.heap.size w1 wx)) (fun _ iv _ => 16 - (intOf iv).toNat)
  case atStart => exact ⟨0, by omega, .inr rfl, rfl, hid (ownsZ_new (heap_new _ _)), hid ((Below.refl _ _).alloc (Nat.le_refl _) _)⟩
  case round =>
    obtain ⟨k, hk, hkP, rfl, HOW, HBR⟩ := hrel
    by_cases hc : (k : Int) < P ∧ k < 16
    · as_aux_lemma =>
      obtain ⟨hc1, hc2⟩ := hc
      have hc2' : (k : Int) < 16 := by omega
      have HWF := hid (wf_one k (by omega))
      have hszr := HBR.out.size
      go_wp2_with (
        (have h0 := HWF.out)
        (refine wpList_appendZ (by rfl) (.tmp 17) (.tmp 19) (by rfl) w1.heap.size _ k ((List.range k).map Int.ofNat) (by rfl) (owns_belowP HOW.out ((Below.refl _ _).alloc (Nat.le_refl _) _)) (by omega) (some ⟨_, 0, none⟩) 1 1 [(k : Int)] (by rfl) (is_i64 _ [(k : Int)] h0) (by intro h; cases h) (by omega) (by omega) (by simp; omega) ?_)
        (intro v6 w6 hown6 hb6)
        (have HOW6 := hid (show w6.ownsRow w1.heap.size 3 1 v6 (k + 1) (i64z ((List.range (k + 1)).map Int.ofNat)) from by rw [List.range_succ, List.map_append]; exact hown6))
        (have HB6 := hid ((HBR.out.alloc HBR.out.size (.cells #[.int .i64 (k : Int)] 3)).trans hb6))
        (clear hown6 hb6 h0))
      exact ⟨⟨k + 1, by omega, .inl (by omega), by go_num, HOW6, HB6⟩, by simp [intOf]; omega⟩
    · obtain ⟨aa, ac, rfl, -, hac, hisA, hnA, hblA⟩ := is_of_ownsZ HOW.out (wfN _ (fun x hx => by have := List.mem_range.1 hx; omega))
      have HR1 := hid (show OwnD wr w.heap.size obj from (HBR.out.block _ (lt_of_heap HR0.out)).trans HR0.out)
      have HRG := hid (range_own HR1.out)
      have hch := rChosen_any obj HO.out HLT.out aa k ac ((List.range k).map Int.ofNat) 16 wr (HV1.out.below HBR.out) hisA (by omega)
      rw [range_all P obj k (by omega) hkP hk] at hch
      have HCH := hid hch
      clear hch hisA hnA hblA HOW
      by_cases hkp : (k : Int) < P
      · have h16 : ¬ (k : Int) < 16 := by omega
        clear hc
        go_wp2_with (refine wpList_load_mid (by rfl) 23 (.tmp 2) (by rfl) w.heap.size 0 (by rfl) (u8s obj) _ HRG.out Tryz.underlying23 rfl HIF.out ?_)
        refine HCH.out.mono ?_
        rintro e w5 ⟨a5, c5, rfl, hi5, hc5, hn5, hb5⟩
        have HI5 := hid hi5
        have HBE := hid (HB1.out.trans ((HBR.out.trans (hb5.mono HBR.out.size)).mono HB1.out.size))
        clear hi5 hb5
        go_wp2_with fail
        go_ret
        exact ⟨a5, c5, rfl, HI5.out, HBE.out⟩
      · clear hc
        go_wp2_with (refine wpList_load_mid (by rfl) 23 (.tmp 2) (by rfl) w.heap.size 0 (by rfl) (u8s obj) _ HRG.out Tryz.underlying23 rfl HIF.out ?_)
        refine HCH.out.mono ?_
        rintro e w5 ⟨a5, c5, rfl, hi5, hc5, hn5, hb5⟩
        have HI5 := hid hi5
        have HBE := hid (HB1.out.trans ((HBR.out.trans (hb5.mono HBR.out.size)).mono HB1.out.size))
        clear hi5 hb5
        go_wp2_with fail
        go_ret
        exact ⟨a5, c5, rfl, HI5.out, HBE.out⟩

/-- who has the piece and lives, but for the peer itself -/
def srcL (self : Int) (lh ll : List Int) (k : Nat) : List Nat := (List.range k).filter fun i => ((i : Int) != self) && setL lh i && setL ll i
theorem srcL_succ (self : Int) (lh ll : List Int) (k : Nat) : srcL self lh ll (k + 1) = if ((((k : Int) != self) && setL lh k && setL ll k) : Bool) = true then srcL self lh ll k ++ [k] else srcL self lh ll k := by
  unfold srcL
  rw [List.range_succ, List.filter_append]
  simp only [List.filter_cons, List.filter_nil]
  split
  · rfl
  · rw [List.append_nil]
theorem srcL_le (self : Int) (lh ll : List Int) (k : Nat) : (srcL self lh ll k).length ≤ k := by
  have := List.length_filter_le (fun i : Nat => ((i : Int) != self) && setL lh i && setL ll i) (List.range k)
  simpa [srcL] using this
theorem srcL_lt (self : Int) (lh ll : List Int) (k : Nat) : ∀ x ∈ srcL self lh ll k, x < k := fun x hx => List.mem_range.1 (List.mem_filter.1 hx).1
set_option maxRecDepth 100000 in
set_option maxHeartbeats 8000000 in
theorem rSources_any (self : Int) (a0 : Option Addr) (n0 c0 : Nat) (l0 : List Int) (a1 : Option Addr) (n1 c1 : Nat) (l1 : List Int) (w : World) (h0 : Is w (.slice a0 n0 c0) l0) (h1 : Is w (.slice a1 n1 c1) l1) (hs0 : n0 ≤ 1000000) (hs1 : n1 ≤ 1000000) :
    Calls Tryz.prog 27 #[.int .i64 self, .slice a0 n0 c0, .slice a1 n1 c1] w fun e w' => ∃ a' c', e = .returned (.slice a' (srcL self l0 l1 16).length c') ∧ Is w' (.slice a' (srcL self l0 l1 16).length c') ((srcL self l0 l1 16).map Int.ofNat) ∧ Below w.heap.size w w' := by
  have H0 := hid h0
  have H1 := hid h1
  clear h0 h1
  go_enter Tryz.func27, Tryz.ntmps27
  go_wp2
  go_loopw [7, 8] (fun av iv wx => ∃ k : Nat, k ≤ 16 ∧ iv = .int .i64 k ∧ Hid (wx.ownsRow w.heap.size 3 1 av (srcL self l0 l1 k).length (i64z ((srcL self l0 l1 k).map Int.ofNat))) ∧ Hid (Below w.heap.size w wx)) (fun _ iv _ => 16 - (intOf iv).toNat)
  case atStart => exact ⟨0, by omega, rfl, hid (ownsZ_new (heap_new _ _)), hid ((Below.refl _ _).alloc (Nat.le_refl _) _)⟩
  case round =>
    obtain ⟨k, hk, rfl, HOW, HBR⟩ := hrel
    by_cases hk16 : k < 16
    · as_aux_lemma =>
      have hk16' : (k : Int) < 16 := by omega
      have HH0 := hid (Has_any a0 n0 c0 l0 (k : Int) wr (H0.out.belowP HBR.out) hs0)
      have HH1 := hid (Has_any a1 n1 c1 l1 (k : Int) wr (H1.out.belowP HBR.out) hs1)
      have HMS := hid (srcL_succ self l0 l1 k)
      have hml := srcL_le self l0 l1 k
      have HWF := hid (wf_one k (by omega))
      have hszr := HBR.out.size
      rw [show l0.contains (k : Int) = setL l0 k from rfl] at HH0
      rw [show l1.contains (k : Int) = setL l1 k from rfl] at HH1
      generalize setL l0 k = S0 at *
      generalize setL l1 k = S1 at *
      by_cases hks : (k : Int) = self
      · have e1 : ((k : Int) != self) = false := by simp [hks]
        have E1 := hid (show srcL self l0 l1 (k + 1) = srcL self l0 l1 k from by rw [HMS.out, e1]; rfl)
        clear hks
        go_wp2_with fail
        exact ⟨⟨k + 1, by omega, by go_num, by rw [E1.out]; exact HOW, HBR⟩, by simp [intOf]; omega⟩
      · have e1 : ((k : Int) != self) = true := by simp [hks]
        have E0 := hid (show srcL self l0 l1 (k + 1) = if (S0 && S1) = true then srcL self l0 l1 k ++ [k] else srcL self l0 l1 k from by rw [HMS.out, e1, Bool.true_and])
        clear hks HMS
        go_wp2_with fail
        refine HH0.out.mono ?_
        rintro e w5 ⟨rfl, rfl⟩
        cases S0 with
        | false =>
          have E1 := hid (show srcL self l0 l1 (k + 1) = srcL self l0 l1 k from E0.out)
          go_wp2_with fail
          exact ⟨⟨k + 1, by omega, by go_num, by rw [E1.out]; exact HOW, HBR⟩, by simp [intOf]; omega⟩
        | true =>
          go_wp2_with fail
          refine HH1.out.mono ?_
          rintro e w5 ⟨rfl, rfl⟩
          cases S1 with
          | false =>
            have E1 := hid (show srcL self l0 l1 (k + 1) = srcL self l0 l1 k from E0.out)
            go_wp2_with fail
            exact ⟨⟨k + 1, by omega, by go_num, by rw [E1.out]; exact HOW, HBR⟩, by simp [intOf]; omega⟩
          | true =>
            have E1 := hid (show srcL self l0 l1 (k + 1) = srcL self l0 l1 k ++ [k] from E0.out)
            go_wp2_with (
              (have h0 := HWF.out)
              (refine wpList_appendZ (by rfl) (.tmp 27) (.tmp 29) (by rfl) w.heap.size _ (srcL self l0 l1 k).length ((srcL self l0 l1 k).map Int.ofNat) (by rfl) (owns_belowP HOW.out ((Below.refl _ _).alloc (Nat.le_refl _) _)) (by omega) (some ⟨_, 0, none⟩) 1 1 [(k : Int)] (by rfl) (is_i64 _ [(k : Int)] h0) (by intro h; cases h) (by omega) (by omega) (by simp; omega) ?_)
              (intro v6 w6 hown6 hb6)
              (have HOW6 := hid hown6)
              (have HB6 := hid ((HBR.out.alloc HBR.out.size (.cells #[.int .i64 (k : Int)] 3)).trans hb6))
              (clear hown6 hb6 h0))
            exact ⟨⟨k + 1, by omega, by go_num, by rw [E1.out]; simpa using HOW6, HB6⟩, by simp [intOf]; omega⟩
    · obtain rfl : k = 16 := by omega
      obtain ⟨aa, ac, rfl, -, hac, hisA, hnA, hblA⟩ := is_of_ownsZ HOW.out (wfN _ (fun x hx => by have := srcL_lt _ _ _ _ x hx; omega))
      have HEND := hid hisA
      clear hisA hnA hblA HOW
      go_wp2_with fail
      go_ret
      exact ⟨aa, ac, rfl, HEND.out, HBR.out⟩
end Go.Proofs.YtjgiiciniplbnaaGreatDoor

namespace Go.Proofs.YtjgiiciniplbnaaGreatDoor
open Go Go.RowKit Go.Lib Go.Sort
set_option linter.unusedVariables false

set_option maxRecDepth 100000 in
set_option maxHeartbeats 8000000 in
theorem rDuty_any (obj : List Nat) (ho : obj.length = 32) (hlt : ∀ x ∈ obj, x < 256) (self : Int) (a : Option Addr) (n c : Nat) (li : List Int) (N : Int) (held buried : Bool) (w : World) (V : Rnds w) (hi : Is w (.slice a n c) li) (hsz : n ≤ 1000000) :
    Calls Tryz.prog 29 #[.agg (u8s obj).toArray, .int .i64 self, .slice a n c, .int .i64 N, .bool held, .bool buried] w fun e w' => e = .returned (.int .u8 (dty obj self li N held buried)) ∧ Below w.heap.size w w' := by
  obtain ⟨w1, hw1⟩ : ∃ y, y = w.alloc (.cells (u8s obj).toArray 23) := ⟨_, rfl⟩
  have hb1 : Below w.heap.size w w1 := by rw [hw1]; exact (Below.refl _ _).alloc (Nat.le_refl _) _
  have HR0 := hid (show OwnD w1 w.heap.size obj from by rw [hw1]; exact heap_new _ _)
  have HRG := hid (range_own HR0.out)
  have HB1 := hid hb1
  have HW1 := hid hw1
  have HIF := hid (infoD obj ho)
  have HCH := hid (rChosen_any obj ho hlt a n c li N w1 (V.below hb1) (hi.belowP hb1) hsz)
  have HD := hid (show dty obj self li N held buried = if buried && held then 3 else if buried || decide (N < 1) then 0 else
    if ((chosenL obj li N).map Int.ofNat).contains self && !held then 1 else if held && !((chosenL obj li N).map Int.ofNat).contains self && decide (((chosenL obj li N).length : Int) = N) then 2 else 0 from rfl)
  have hl16 : (chosenL obj li N).length ≤ 16 := by
    unfold chosenL
    rw [List.length_take, rkd_length]
    exact Nat.le_trans (Nat.min_le_right _ _) (memb_le _ _)
  obtain ⟨D, hDe⟩ : ∃ D, D = dty obj self li N held buried := ⟨_, rfl⟩
  rw [← hDe] at HD ⊢
  clear V hb1 hw1 hi hsz hDe ho hlt
  generalize chosenL obj li N = CL at *
  go_enter Tryz.func29, Tryz.ntmps29
  go_upto_region 1 with fail
  rw [← HW1.out]
  clear HW1
  go_wp2_with (refine wpList_load_mid (by rfl) 23 (.tmp 6) (by rfl) w.heap.size 0 (by rfl) (u8s obj) _ HRG.out Tryz.underlying23 rfl HIF.out ?_)
  refine HCH.out.mono ?_
  rintro e w2 ⟨a2, c2, rfl, hi2, hc2, hn2, hb2⟩
  have HCO := hid (Has_any a2 CL.length c2 (CL.map Int.ofNat) self w2 hi2 (by omega))
  have HBE := hid (HB1.out.trans (hb2.mono HB1.out.size))
  clear hi2 hb2 hn2
  generalize (CL.map Int.ofNat).contains self = K at *
  generalize CL.length = L at *
  by_cases hN : N < 1
  · have hd := HD.out
    clear HD
    cases buried <;> cases held <;> simp [hN] at hd <;> subst hd
    all_goals
      go_wp2_with fail
      go_ret
      exact ⟨rfl, HBE.out⟩
  · by_cases hL : (L : Int) = N
    · have hq : ((L : Int) == N) = true := by simp [hL]
      have hd := HD.out
      have HL := hid hL
      clear HD
      cases buried <;> cases held <;> cases K <;> simp [hN, hL] at hd <;> subst hd
      all_goals
        clear hL
        go_wp2_with fail
        first
          | (go_ret
             exact ⟨rfl, HBE.out⟩)
          | (refine HCO.out.mono ?_
             rintro e w3 ⟨rfl, rfl⟩
             go_wp2_with fail
             first
               | (go_ret
                  exact ⟨rfl, HBE.out⟩)
               | (refine HCO.out.mono ?_
                  rintro e w3 ⟨rfl, rfl⟩
                  go_wp2_with fail
                  go_ret
                  exact ⟨rfl, HBE.out⟩))
    · have hq : ((L : Int) == N) = false := by simp [hL]
      have hd := HD.out
      clear HD
      cases buried <;> cases held <;> cases K <;> simp [hN, hL] at hd <;> subst hd
      all_goals
        go_wp2_with fail
        first
          | (go_ret
             exact ⟨rfl, HBE.out⟩)
          | (refine HCO.out.mono ?_
             rintro e w3 ⟨rfl, rfl⟩
             go_wp2_with fail
             first
               | (go_ret
                  exact ⟨rfl, HBE.out⟩)
               | (refine HCO.out.mono ?_
                  rintro e w3 ⟨rfl, rfl⟩
                  go_wp2_with fail
                  go_ret
                  exact ⟨rfl, HBE.out⟩))

/-- how many of a list's first numbers are better -/
def cntB (obj : List Nat) (self : Int) (l : List Nat) (k : Nat) : Nat := ((l.take k).filter fun (i : Nat) => decide (cmpP obj (i : Int) self < 0)).length
theorem cntB_succ (obj : List Nat) (self : Int) (l : List Nat) (k : Nat) (hk : k < l.length) : cntB obj self l (k + 1) = cntB obj self l k + (if decide (cmpP obj ((l.getD k 0 : Nat) : Int) self < 0) = true then 1 else 0) := by
  unfold cntB
  have e : l.getD k 0 = l[k] := by rw [List.getD_eq_getElem?_getD, List.getElem?_eq_getElem hk]; rfl
  rw [List.take_succ_eq_append_getElem hk, List.filter_append, List.length_append, e]
  congr 1
  simp only [List.filter_cons, List.filter_nil]
  split <;> rfl
theorem cntB_le (obj : List Nat) (self : Int) (l : List Nat) (k : Nat) : cntB obj self l k ≤ l.length := Nat.le_trans (List.length_filter_le _ _) (by rw [List.length_take]; omega)
theorem cntB_all (obj : List Nat) (self : Int) (li : List Int) : cntB obj self (memb (setL li) 16) (memb (setL li) 16).length = (bets obj self li 16).length := by
  unfold cntB bets memb
  rw [List.take_length, List.filter_filter]
  congr 1
  apply List.filter_congr
  intro x _
  exact Bool.and_comm _ _
set_option maxRecDepth 100000 in
set_option maxHeartbeats 8000000 in
theorem rCovered_any (obj : List Nat) (ho : obj.length = 32) (hlt : ∀ x ∈ obj, x < 256) (self N : Int) (a : Option Addr) (n c : Nat) (li : List Int) (w : World) (V : Rnds w) (hi : Is w (.slice a n c) li) (hsz : n ≤ 1000000) :
    Calls Tryz.prog 31 #[.agg (u8s obj).toArray, .int .i64 self, .int .i64 N, .slice a n c] w fun e w' => e = .returned (.bool (cov obj self N li)) ∧ Below w.heap.size w w' := by
  obtain ⟨w1, hw1⟩ : ∃ y, y = w.alloc (.cells (u8s obj).toArray 23) := ⟨_, rfl⟩
  have hb1 : Below w.heap.size w w1 := by rw [hw1]; exact (Below.refl _ _).alloc (Nat.le_refl _) _
  have HR0 := hid (show OwnD w1 w.heap.size obj from by rw [hw1]; exact heap_new _ _)
  have HB1 := hid hb1
  have HW1 := hid hw1
  have HPE := hid (rpeers_any a n c li w1 (hi.belowP hb1) hsz)
  have HBT := hid (fun (x : Nat) (wx : World) (h : Below w1.heap.size w1 wx) => rBetter_any obj ho hlt (x : Int) self wx ((V.below hb1).below h))
  obtain ⟨OB, hOB⟩ : ∃ y, y = (u8s obj).toArray := ⟨_, rfl⟩
  have HLD := hid (show ∀ wx, Below w1.heap.size w1 wx → (loadVar 23 ⟨w.heap.size, 0, none⟩).run Tryz.prog wx = .ok (.agg OB) wx from fun wx h => by
    rw [hOB]
    exact load_dig ho ((h.block _ (lt_of_heap HR0.out)).trans HR0.out))
  rw [← hOB] at HBT HW1 ⊢
  have HC0 := hid (show cov obj self N li = (decide (1 ≤ N) && decide (N ≤ ((cntB obj self (memb (setL li) 16) (memb (setL li) 16).length : Nat) : Int))) from by rw [cntB_all]; rfl)
  have hml := memb_le (setL li) 16
  obtain ⟨R, hR⟩ : ∃ R, R = cov obj self N li := ⟨_, rfl⟩
  rw [← hR] at HC0 ⊢
  generalize memb (setL li) 16 = ML at *
  clear V hb1 hw1 hi hsz hR hOB ho hlt
  go_enter Tryz.func31, Tryz.ntmps31
  go_upto_region 1 with fail
  rw [← HW1.out]
  clear HW1
  go_wp2_with fail
  refine HPE.out.mono ?_
  rintro e w2 ⟨pa, pc, rfl, hi2, hpc, hpn, hpb, hb2⟩
  have HI2 := hid hi2
  have HB2 := hid hb2
  clear hi2 hpn hpb hb2 HPE
  go_wp2_with fail
  go_loopw [9, 11] (fun nv iv wx => ∃ k : Nat, k ≤ ML.length ∧ iv = .int .i64 k ∧ nv = .int .i64 ((cntB obj self ML k : Nat) : Int) ∧ Hid (Below w2.heap.size w2 wx)) (fun _ iv _ => ML.length - (intOf iv).toNat)
  case atStart => exact ⟨0, by omega, rfl, rfl, hid (Below.refl _ _)⟩
  case round =>
    obtain ⟨k, hk, rfl, rfl, HBR⟩ := hrel
    have hle := cntB_le obj self ML k
    by_cases hkm : k < ML.length
    · as_aux_lemma =>
      have hkm' : (k : Int) < (ML.length : Int) := by omega
      obtain ⟨gb, go, rfl, cx⟩ := (HI2.out.belowP HBR.out).atP k hkm
      rw [getD_mapN ML k hkm] at cx
      have HST := hid (cntB_succ obj self ML k hkm)
      have HBX := hid (HB2.out.trans (HBR.out.mono HB2.out.size))
      have HBT2 := hid (fun (wx : World) (h : Below wr.heap.size wr wx) => HBT.out (ML.getD k 0) wx (HBX.out.trans (h.mono HBX.out.size)))
      generalize decide (cmpP obj ((ML.getD k 0 : Nat) : Int) self < 0) = D at *
      generalize ML.getD k 0 = X at *
      generalize cntB obj self ML k = q at *
      have HKP := hid (show ∀ wx, Below wr.heap.size wr wx → Below wr.heap.size wr wx ∧ wx.cell? ⟨gb, go + k, none⟩ = some (.int .i64 (X : Int)) ∧ (loadVar 23 ⟨w.heap.size, 0, none⟩).run Tryz.prog wx = .ok (.agg OB) wx from fun wx h => ⟨h, (h.cell (World.block_lt_of_cell? _ _ cx)).trans cx, HLD.out wx (HBX.out.trans (h.mono HBX.out.size))⟩)
      clear cx
      go_upto_region 6 with fail
      refine wp_region_held_drew (S := (fun wx => Below wr.heap.size wr wx ∧ wx.cell? ⟨gb, go + k, none⟩ = some (.int .i64 (X : Int)) ∧ (loadVar 23 ⟨w.heap.size, 0, none⟩).run Tryz.prog wx = .ok (.agg OB) wx)) (by kernel_rfl) (HKP.out _ (bel_drewN (Below.refl _ _) 1)) (fun hHeld => ?_)
      refine wpAnyH_take (i := 0) (oi := { dst := some 20, op := Op.load 23 (Operand.tmp 4), type := 23, pos := "ref.go:102", after := #[], guard := none }) (v := .agg OB) rfl (by kernel_rfl) (by kernel_rfl) (by kernel_rfl) (fun _ _ _ h => h) (Or.inl ⟨by rfl, ?hy⟩) hHeld ?_
      case hy => (intro w hSw; exact run_load_opP hSw.2.2)
      try simp only [Act.put, List.setIfInBounds_toArray, List.set_cons_zero, List.set_cons_succ]
      refine wpAnyH_take (i := 1) (oi := { dst := some 21, op := Op.move (Operand.tmp 10), type := 27, pos := "ref.go:102", after := #[], guard := none }) (v := ?_) rfl (by kernel_rfl) (by kernel_rfl) (by kernel_rfl) (fun _ _ _ h => h) (Or.inl ⟨by rfl, ?hy⟩) hHeld ?_
      case hy => (intro w hSw; (try dsimp only at hSw); obtain ⟨_, _, _⟩ := hSw; go_simp; all_goals (with_reducible rfl))
      try simp only [Act.put, List.setIfInBounds_toArray, List.set_cons_zero, List.set_cons_succ]
      refine wpAnyH_take (i := 2) (oi := { dst := some 22, op := Op.move (Operand.tmp 11), type := 3, pos := "ref.go:102", after := #[], guard := none }) (v := ?_) rfl (by kernel_rfl) (by kernel_rfl) (by kernel_rfl) (fun _ _ _ h => h) (Or.inl ⟨by rfl, ?hy⟩) hHeld ?_
      case hy => (intro w hSw; (try dsimp only at hSw); obtain ⟨_, _, _⟩ := hSw; go_simp; all_goals (with_reducible rfl))
      try simp only [Act.put, List.setIfInBounds_toArray, List.set_cons_zero, List.set_cons_succ]
      refine wpAnyH_take (i := 3) (oi := { dst := some 23, op := Op.indexAddr 27 (Operand.tmp 21) (Operand.tmp 22), type := 0, pos := "ref.go:102", after := #[{ on := 1, ground := Ground.data }, { on := 2, ground := Ground.data }], guard := none }) (v := ?_) rfl (by kernel_rfl) (by kernel_rfl) (by kernel_rfl) (fun _ _ _ h => h) (Or.inl ⟨by rfl, ?hy⟩) hHeld ?_
      case hy => (intro w hSw; (try dsimp only at hSw); obtain ⟨_, _, _⟩ := hSw; go_simp; all_goals (with_reducible rfl))
      try simp only [Act.put, List.setIfInBounds_toArray, List.set_cons_zero, List.set_cons_succ]
      refine wpAnyH_take (i := 4) (oi := { dst := some 24, op := Op.load 3 (Operand.tmp 23), type := 3, pos := "ref.go:102", after := #[{ on := 3, ground := Ground.data }], guard := none }) (v := ?_) rfl (by kernel_rfl) (by kernel_rfl) (by kernel_rfl) (fun _ _ _ h => h) (Or.inl ⟨by rfl, ?hy⟩) hHeld ?_
      case hy => (intro w hSw; (try dsimp only at hSw); obtain ⟨_, _, _⟩ := hSw; go_simp; all_goals (with_reducible rfl))
      try simp only [Act.put, List.setIfInBounds_toArray, List.set_cons_zero, List.set_cons_succ]
      refine wpAnyH_take (i := 5) (oi := { dst := some 25, op := Op.move (Operand.tmp 1), type := 3, pos := "ref.go:102", after := #[], guard := none }) (v := ?_) rfl (by kernel_rfl) (by kernel_rfl) (by kernel_rfl) (fun _ _ _ h => h) (Or.inl ⟨by rfl, ?hy⟩) hHeld ?_
      case hy => (intro w hSw; (try dsimp only at hSw); obtain ⟨_, _, _⟩ := hSw; go_simp; all_goals (with_reducible rfl))
      try simp only [Act.put, List.setIfInBounds_toArray, List.set_cons_zero, List.set_cons_succ]
      refine wpAnyH_ready (rs := [6]) (by kernel_rfl) (by simp) ?_
      refine AllReadyH.cons (o := { dst := some 26, op := Op.call { callee := Callee.value (Operand.func 18), args := #[Operand.tmp 20, Operand.tmp 24, Operand.tmp 25], argTypes := #[23, 3, 3] }, type := 4, pos := "ref.go:102", after := #[{ on := 0, ground := Ground.data }, { on := 4, ground := Ground.data }, { on := 5, ground := Ground.data }], guard := none }) rfl (fun K hK => ?_) AllReadyH.nil
      go_simp
      refine (HBT2.out _ hHeld.1).mono ?_
      rintro e w9 ⟨rfl, hb9⟩
      have G9 := hHeld.1.trans (hb9.mono hHeld.1.size)
      clear hb9
      clear hHeld
      go_wp2_with fail
      refine hK.out _ _ (HKP.out _ G9) (fun hHeld => ?_)
      clear hK K
      try simp only [Act.put, List.setIfInBounds_toArray, List.set_cons_zero, List.set_cons_succ]
      refine wpAnyH_done (by kernel_rfl) ?_ _
      have HBE := hid (HBR.out.trans (G9.mono HBR.out.size))
      clear G9 hHeld
      cases D with
      | true =>
        have E1 := hid (show cntB obj self ML (k + 1) = q + 1 from by rw [HST.out]; rfl)
        go_wp2_with fail
        exact ⟨⟨k + 1, by omega, by go_num, by rw [E1.out]; go_num, HBE⟩, by simp [intOf]; omega⟩
      | false =>
        have E1 := hid (show cntB obj self ML (k + 1) = q from by rw [HST.out]; rfl)
        go_wp2_with fail
        exact ⟨⟨k + 1, by omega, by go_num, by rw [E1.out], HBE⟩, by simp [intOf]; omega⟩
    · obtain rfl : k = ML.length := by omega
      have HRR := hid HC0.out
      have HBE := hid (HB1.out.trans ((HB2.out.trans (HBR.out.mono HB2.out.size)).mono HB1.out.size))
      generalize cntB obj self ML ML.length = q at *
      clear HC0
      by_cases h1 : 1 ≤ N
      · by_cases h2 : N ≤ (q : Int)
        · have e : R = true := by rw [HRR.out]; simp [h1, h2]
          subst e
          go_wp2_with fail
          go_ret
          exact ⟨rfl, HBE.out⟩
        · have e : R = false := by rw [HRR.out]; simp [h2]
          subst e
          go_wp2_with fail
          go_ret
          exact ⟨rfl, HBE.out⟩
      · have e : R = false := by rw [HRR.out]; simp [h1]
        subst e
        go_wp2_with fail
        go_ret
        exact ⟨rfl, HBE.out⟩
end Go.Proofs.YtjgiiciniplbnaaGreatDoor

namespace Go.Proofs.YtjgiiciniplbnaaGreatDoor
open Go Go.RowKit Go.Lib Go.Sort
set_option linter.unusedVariables false

set_option maxRecDepth 100000 in
set_option maxHeartbeats 8000000 in
theorem Sources_any (self : Int) (a0 : Option Addr) (n0 c0 : Nat) (l0 : List Int) (a1 : Option Addr) (n1 c1 : Nat) (l1 : List Int) (w : World) (h0 : Is w (.slice a0 n0 c0) l0) (h1 : Is w (.slice a1 n1 c1) l1) (hs0 : n0 ≤ 1000000) (hs1 : n1 ≤ 1000000) :
    Calls Tryz.prog 26 #[.int .i64 self, .slice a0 n0 c0, .slice a1 n1 c1] w fun e w' => ∃ a' c', e = .returned (.slice a' (srcL self l0 l1 16).length c') ∧ Is w' (.slice a' (srcL self l0 l1 16).length c') ((srcL self l0 l1 16).map Int.ofNat) ∧ Below w.heap.size w w' := by
  have HP0 := hid (newPeerSet_any a0 n0 c0 l0 w h0 hs0)
  have HP1 := hid (fun (wx : World) (h : Below w.heap.size w wx) => newPeerSet_any a1 n1 c1 l1 wx (h1.belowP h) hs1)
  have hl0 := bools_length (setL l0)
  have hl1 := bools_length (setL l1)
  have HON0 := hid (bools_one (setL l0))
  have HON1 := hid (bools_one (setL l1))
  obtain ⟨B0, hB0⟩ : ∃ y, y = bools (setL l0) := ⟨_, rfl⟩
  obtain ⟨B1, hB1⟩ : ∃ y, y = bools (setL l1) := ⟨_, rfl⟩
  rw [← hB0] at hl0 HON0 HP0
  rw [← hB1] at hl1 HON1 HP1
  have HBE0 := hid hB0
  have HBE1 := hid hB1
  have HIF0 := hid (show (Tryz.prog.info? 126).map (·.size) = some B0.toArray.size from by rw [List.size_toArray, hl0]; kernel_rfl)
  have HIF1 := hid (show (Tryz.prog.info? 126).map (·.size) = some B1.toArray.size from by rw [List.size_toArray, hl1]; kernel_rfl)
  have HOS0 := hid (show (16 : Nat) = B0.toArray.size from by rw [List.size_toArray, hl0])
  have HOS1 := hid (show (16 : Nat) = B1.toArray.size from by rw [List.size_toArray, hl1])
  have HOA0 := hid (show B0.toArray.all (·.oneCell') = true from all_oneCell_toArray HON0.out)
  have HOA1 := hid (show B1.toArray.all (·.oneCell') = true from all_oneCell_toArray HON1.out)
  clear hl0 hl1 hB0 hB1 HON0 HON1 h0 h1
  go_enter Tryz.func26, Tryz.ntmps26
  go_wp2_with fail
  refine HP0.out.mono ?_
  rintro e w1 ⟨rfl, hb1⟩
  have HB1 := hid hb1
  clear hb1
  go_wp2_with fail
  refine (HP1.out w1 HB1.out).mono ?_
  rintro e w2 ⟨rfl, hb2⟩
  have HB2 := hid (HB1.out.trans (hb2.mono HB1.out.size))
  clear hb2
  go_wp2_with (first
    | ((have h7 : ((w2.alloc (.cells (bools fun _ => false).toArray 126)).alloc (.cells (bools fun _ => false).toArray 126)).heap[w2.heap.size]? = some (.cells (bools fun _ => false).toArray 126 (0, 0)) := heap_alloc (heap_new _ _) _)
       (refine wpList_store_row (by rfl) 126 (.tmp 7) (.tmp 12) (by rfl) w2.heap.size _ B0.toArray 126 (by rfl) (by rfl) h7 HIF0.out HOS0.out HOA0.out ?_)
       (intro w5 hw5 hk5)
       (have H75 := hid (show OwnB w5 w2.heap.size (setL l0) from by unfold OwnB; rw [hw5, HBE0.out]))
       (have H85 := hid (show w5.heap[w2.heap.size + 1]? = some (.cells (bools fun _ => false).toArray 126 (0, 0)) from by
          have h := heap_new (w2.alloc (.cells (bools fun _ => false).toArray 126)) (.cells (bools fun _ => false).toArray 126)
          have e : (w2.alloc (.cells (bools fun _ => false).toArray 126)).heap.size = w2.heap.size + 1 := by simp
          rw [e] at h
          exact (hk5.block _ (by simp) (by omega)).trans h))
       (have HB5 := hid (((HB2.out.alloc HB2.out.size (.cells (bools fun _ => false).toArray 126)).alloc (Nat.le_trans HB2.out.size (by simp)) (.cells (bools fun _ => false).toArray 126)).trans (hk5.below (Nat.le_trans HB2.out.size (by simp; omega)) HB2.out.size)))
       (clear h7 hw5 hk5 HP0 HP1))
    | ((have h8 := H85.out)
       (refine wpList_store_row (by rfl) 126 (.tmp 8) (.tmp 14) (by rfl) (w2.heap.size + 1) _ B1.toArray 126 (by rfl) (by rfl) h8 HIF1.out HOS1.out HOA1.out ?_)
       (intro w6 hw6 hk6)
       (have H86 := hid (show OwnB w6 (w2.heap.size + 1) (setL l1) from by unfold OwnB; rw [hw6, HBE1.out]))
       (have H76 := hid (show OwnB w6 w2.heap.size (setL l0) from (hk6.block _ (lt_of_heap H75.out) (by omega)).trans H75.out))
       (have HB6 := hid (HB5.out.trans (hk6.below HB5.out.size (Nat.le_trans HB2.out.size (Nat.le_succ _)))))
       (clear h8 hw6 hk6 H75 H85 HB5)))
  obtain ⟨sb, hsb⟩ : ∃ y, y = w2.heap.size := ⟨_, rfl⟩
  rw [← hsb] at H76 H86 ⊢
  clear hsb HB2 HB1
  go_wp2_with fail
  go_loopw [9, 15] (fun av iv wx => ∃ k : Nat, k ≤ 16 ∧ iv = .int .i64 k ∧ Hid (wx.ownsRow w6.heap.size 3 1 av (srcL self l0 l1 k).length (i64z ((srcL self l0 l1 k).map Int.ofNat))) ∧ Hid (Below w6.heap.size w6 wx)) (fun _ iv _ => 16 - (intOf iv).toNat)
  case atStart => exact ⟨0, by omega, rfl, hid ⟨rfl, .inl ⟨rfl, rfl⟩⟩, hid (Below.refl _ _)⟩
  case round =>
    obtain ⟨k, hk, rfl, HOW, HBR⟩ := hrel
    by_cases hk16 : k < 16
    · as_aux_lemma =>
      have hk16' : (k : Int) < 16 := by omega
      have c7 := (H76.out.below HBR.out).cell k hk16
      have c8 := (H86.out.below HBR.out).cell k hk16
      have HMS := hid (srcL_succ self l0 l1 k)
      have hml := srcL_le self l0 l1 k
      have HWF := hid (wf_one k (by omega))
      have hszr := HBR.out.size
      generalize setL l0 k = S0 at *
      generalize setL l1 k = S1 at *
      by_cases hks : (k : Int) = self
      · have e1 : ((k : Int) != self) = false := by simp [hks]
        have E1 := hid (show srcL self l0 l1 (k + 1) = srcL self l0 l1 k from by rw [HMS.out, e1]; rfl)
        clear hks
        go_wp2_with fail
        exact ⟨⟨k + 1, by omega, by go_num, by rw [E1.out]; exact HOW, HBR⟩, by simp [intOf]; omega⟩
      · have e1 : ((k : Int) != self) = true := by simp [hks]
        have E0 := hid (show srcL self l0 l1 (k + 1) = if (S0 && S1) = true then srcL self l0 l1 k ++ [k] else srcL self l0 l1 k from by rw [HMS.out, e1, Bool.true_and])
        clear hks HMS
        cases S0 with
        | false =>
          have E1 := hid (show srcL self l0 l1 (k + 1) = srcL self l0 l1 k from E0.out)
          go_wp2_with fail
          exact ⟨⟨k + 1, by omega, by go_num, by rw [E1.out]; exact HOW, HBR⟩, by simp [intOf]; omega⟩
        | true =>
          cases S1 with
          | false =>
            have E1 := hid (show srcL self l0 l1 (k + 1) = srcL self l0 l1 k from E0.out)
            go_wp2_with fail
            exact ⟨⟨k + 1, by omega, by go_num, by rw [E1.out]; exact HOW, HBR⟩, by simp [intOf]; omega⟩
          | true =>
            have E1 := hid (show srcL self l0 l1 (k + 1) = srcL self l0 l1 k ++ [k] from E0.out)
            go_wp2_with (
              (have h0 := HWF.out)
              (refine wpList_appendZ (by rfl) (.tmp 31) (.tmp 33) (by rfl) w6.heap.size _ (srcL self l0 l1 k).length ((srcL self l0 l1 k).map Int.ofNat) (by rfl) (owns_belowP HOW.out ((Below.refl _ _).alloc (Nat.le_refl _) _)) (by omega) (some ⟨_, 0, none⟩) 1 1 [(k : Int)] (by rfl) (is_i64 _ [(k : Int)] h0) (by intro h; cases h) (by omega) (by omega) (by simp; omega) ?_)
              (intro v8 w8 hown8 hb8)
              (have HOW8 := hid hown8)
              (have HB8 := hid ((HBR.out.alloc HBR.out.size (.cells #[.int .i64 (k : Int)] 3)).trans hb8))
              (clear hown8 hb8 h0))
            exact ⟨⟨k + 1, by omega, by go_num, by rw [E1.out]; simpa using HOW8, HB8⟩, by simp [intOf]; omega⟩
    · obtain rfl : k = 16 := by omega
      obtain ⟨aa, ac, rfl, -, hac, hisA, hnA, hblA⟩ := is_of_ownsZ HOW.out (wfN _ (fun x hx => by have := srcL_lt _ _ _ _ x hx; omega))
      have HEND := hid hisA
      have HBE := hid (HB6.out.trans (HBR.out.mono HB6.out.size))
      clear hisA hnA hblA HOW
      go_wp2_with fail
      go_ret
      exact ⟨aa, ac, rfl, HEND.out, HBE.out⟩
end Go.Proofs.YtjgiiciniplbnaaGreatDoor

namespace Go.Proofs.YtjgiiciniplbnaaGreatDoor
open Go Go.RowKit Go.Lib Go.Sort
set_option linter.unusedVariables false

set_option maxRecDepth 100000 in
set_option maxHeartbeats 2000000 in
theorem Note_nil (obj : List Nat) (p t : Int) (w : World) : Calls Tryz.prog 33 #[.pointer none, .agg (u8s obj).toArray, .int .i64 p, .int .u64 t] w fun e w' => e = .returned (.tuple #[]) ∧ Below w.heap.size w w' := by
  have HIP := hid (isPeer_any p (w.alloc (.cells (u8s obj).toArray 23)))
  go_enter Tryz.func33, Tryz.ntmps33
  go_wp2
  refine bodyPost_ret (results_none rfl _ _ _) rfl ?_
  exact ⟨rfl, (Below.refl _ _).alloc (Nat.le_refl _) _⟩
set_option maxRecDepth 100000 in
set_option maxHeartbeats 2000000 in
theorem Sweep_nil (t : Int) (w : World) : Calls Tryz.prog 35 #[.pointer none, .int .u64 t] w fun e w' => e = .returned (.tuple #[]) ∧ Below w.heap.size w w' := by
  go_enter Tryz.func35, Tryz.ntmps35
  go_wp2
  refine bodyPost_ret (results_none rfl _ _ _) rfl ?_
  exact ⟨rfl, Below.refl _ _⟩
set_option maxRecDepth 100000 in
set_option maxHeartbeats 2000000 in
theorem Ready_nil (w : World) : Calls Tryz.prog 47 #[.pointer none] w fun e w' => e = .returned (.bool false) ∧ Below w.heap.size w w' := by
  go_enter Tryz.func47, Tryz.ntmps47
  go_upto_region 1 with fail
  go_quiet (fail)
  go_wp2
  go_ret
  exact ⟨rfl, bel_drewN (Below.refl _ _) _⟩
set_option maxRecDepth 100000 in
set_option maxHeartbeats 2000000 in
theorem Indices_nil (w : World) : Calls Tryz.prog 50 #[.pointer none] w fun e w' => e = .returned (.slice none 0 0) ∧ Below w.heap.size w w' := by
  go_enter Tryz.func50, Tryz.ntmps50
  go_wp2
  go_ret
  exact ⟨rfl, Below.refl _ _⟩
set_option maxRecDepth 100000 in
set_option maxHeartbeats 2000000 in
theorem Offer_nil (MC PC : Array Value) (w : World) : Calls Tryz.prog 44 #[.pointer none, .agg MC, .agg PC] w fun e w' => e = .returned (.int .i64 1) ∧ Below w.heap.size w w' := by
  go_enter Tryz.func44, Tryz.ntmps44
  go_wp2
  go_ret
  exact ⟨rfl, ((Below.refl _ _).alloc (Nat.le_refl _) _).alloc (by simp) _⟩
set_option maxRecDepth 100000 in
set_option maxHeartbeats 2000000 in
theorem Claimants_nil (obj : List Nat) (w : World) : Calls Tryz.prog 37 #[.pointer none, .agg (u8s obj).toArray] w fun e w' => e = .returned (.slice none 0 0) ∧ Below w.heap.size w w' := by
  go_enter Tryz.func37, Tryz.ntmps37
  go_wp2
  go_ret
  exact ⟨rfl, (Below.refl _ _).alloc (Nat.le_refl _) _⟩
set_option maxRecDepth 100000 in
set_option maxHeartbeats 2000000 in
theorem Blocked_nil (obj : List Nat) (self t : Int) (vl vh : Value) (w : World) : Calls Tryz.prog 39 #[.pointer none, .agg (u8s obj).toArray, .int .i64 self, .int .u64 t, vl, vh] w fun e w' => e = .returned (.bool false) ∧ Below w.heap.size w w' := by
  go_enter Tryz.func39, Tryz.ntmps39
  go_wp2
  go_ret
  exact ⟨rfl, (Below.refl _ _).alloc (Nat.le_refl _) _⟩
set_option maxRecDepth 100000 in
set_option maxHeartbeats 2000000 in
theorem complete_nil (w : World) : Calls Tryz.prog 79 #[.pointer none] w fun e w' => e = .returned (.int .i64 1) ∧ Below w.heap.size w w' := by
  go_enter Tryz.func79, Tryz.ntmps79
  go_wp2
  go_ret
  exact ⟨rfl, Below.refl _ _⟩
set_option maxRecDepth 100000 in
set_option maxHeartbeats 2000000 in
theorem Data_nil (f : Value) (w : World) : Calls Tryz.prog 52 #[.pointer none, f] w fun e w' => e = .returned (.tuple #[.slice none 0 0, .int .i64 1]) ∧ Below w.heap.size w w' := by
  go_enter Tryz.func52, Tryz.ntmps52
  go_wp2_with fail
  refine (complete_nil w).mono ?_
  rintro e w1 ⟨rfl, hb1⟩
  go_wp2
  go_ret2
  exact ⟨rfl, hb1⟩
set_option maxRecDepth 100000 in
set_option maxHeartbeats 2000000 in
theorem Piece_nil (f : Value) (x : Int) (w : World) : Calls Tryz.prog 54 #[.pointer none, f, .int .i64 x] w fun e w' => e = .returned (.tuple #[.agg #[.int .i64 0, .slice none 0 0], .int .i64 1]) ∧ Below w.heap.size w w' := by
  have hb : Tryz.prog.built 68 [] = some #[.int .i64 0, .slice none 0 0] := by kernel_rfl
  go_enter Tryz.func54, Tryz.ntmps54
  go_wp2_with fail
  refine (complete_nil _).mono ?_
  rintro e w1 ⟨rfl, hb1⟩
  have hbl := (((Below.refl w.heap.size w).alloc (Nat.le_refl _) (.cells #[.int .i64 0, .slice none 0 0] 68))).trans (hb1.mono (by simp))
  have h0 := (hb1.block w.heap.size (by simp)).trans (heap_new w (.cells #[.int .i64 0, .slice none 0 0] 68))
  have c0 : w1.cell? ⟨w.heap.size, 0, none⟩ = some (.int .i64 0) := by rw [cell_of_heap h0]; rfl
  have c1 : w1.cell? ⟨w.heap.size, 1, none⟩ = some (.slice none 0 0) := by rw [cell_of_heap h0]; rfl
  have f0 := free_of_heap h0 0
  have f1 := free_of_heap h0 1
  have hk : ∀ v0 v1, ((w1.setCell ⟨w.heap.size, 0, none⟩ v0).setCell ⟨w.heap.size, 1, none⟩ v1).heap[w.heap.size]? = some (.cells #[v0, v1] 68 (0, 0)) := fun v0 v1 => by
    have h1 := heap_set (heap_set h0 0 v0) 1 v1
    rw [h1]
    rfl
  have hs : ∀ v0 v1, Below w.heap.size w ((w1.setCell ⟨w.heap.size, 0, none⟩ v0).setCell ⟨w.heap.size, 1, none⟩ v1) := fun v0 v1 => (hbl.setCell (Nat.le_refl _) _).setCell (Nat.le_refl _) _
  go_wp2
  have hif : (Tryz.prog.info? 68).map (·.size) = some (#[.int .i64 0, .slice none 0 0] : Array Value).size := by kernel_rfl
  have hres := run_loadVar_row (P := Tryz.prog) _ _ 68 68 _ (0, 0) _ (hk (.int .i64 0) (.slice none 0 0)) Tryz.underlying68 rfl hif
  exact bodyPost_ret (v := .tuple #[.agg #[.int .i64 0, .slice none 0 0], .int .i64 1]) (results_di Tryz.results54 rfl hres rfl) rfl ⟨rfl, hs _ _⟩
end Go.Proofs.YtjgiiciniplbnaaGreatDoor

namespace Go.Proofs.YtjgiiciniplbnaaGreatDoor
open Go Go.RowKit Go.Lib Go.Sort
set_option linter.unusedVariables false

theorem results_cc {fn : Func} {p q : Tmp} {ty tz : TypeId} (h : fn.results = #[.cell p ty, .cell q tz]) {tmps : Array Value} {P : Program} {w : World} {ad ae : Addr} {v u : Value} (hp : tmps.getD p undef = .pointer (some ad)) (hv : (loadVar ty ad).run P w = .ok v w) (hq : tmps.getD q undef = .pointer (some ae)) (hu : (loadVar tz ae).run P w = .ok u w) :
    (results fn tmps).run P w = .ok (.tuple #[v, u]) w := by
  have e : (results fn tmps).run P w = ((asAddr (tmps.getD p undef)).run P w).andThen fun a w₁ => ((loadVar ty a).run P w₁).andThen fun x w₂ => ((asAddr (tmps.getD q undef)).run P w₂).andThen fun b w₃ => ((loadVar tz b).run P w₃).andThen fun y w₄ => .ok (.tuple #[x, y]) w₄ := by
    simp only [results, h]
    simp [Sem.run_bind, Result.andThen]
  rw [e, hp, hq]
  simp [asAddr, hv, hu, Result.andThen]
theorem piece_allO (x : Int) (a : Option Addr) (n c : Nat) : (#[.int .i64 x, .slice a n c] : Array Value).all (·.oneCell') = true := all_oneCell_toArray (fun u hu => by simp at hu; rcases hu with rfl | rfl <;> rfl)
def pz : Array Value := #[.int .i64 0, .slice none 0 0]
set_option maxRecDepth 100000 in
set_option maxHeartbeats 8000000 in
theorem own_pl (k n t s : Int) (od : List Nat) (a : Option Addr) (m c : Nat) (D : List (List Nat)) (x : Int) (pa : Option Addr) (pn pc : Nat) (l : List Nat) (w : World) (hod : od.length = 32) (hb : Dgs w a m c D) (hm : m ≤ 100000)
    (hp : Bs w (.slice pa pn pc) l) (hpnil : pa = none → pc = 0) (hpn : pn ≤ 1000000) :
    Calls Tryz.prog 43 #[.agg (mcells k n t s od (.slice a m c)).toArray, .agg #[.int .i64 x, .slice pa pn pc]] w fun e w' => ∃ a' c' pa' pc', e = .returned (.tuple #[.agg (mcells k n t s od (.slice a' m c')).toArray, .agg #[.int .i64 x, .slice pa' pn pc']]) ∧ Dgs w' a' m c' D ∧ (∀ ad, a' = some ad → w.heap.size ≤ ad.block) ∧ Bs w' (.slice pa' pn pc') l ∧ pn ≤ pc' ∧ (pa' = none → pc' = 0) ∧ (∀ ad, pa' = some ad → w.heap.size ≤ ad.block) ∧ Below w.heap.size w w' := by
  obtain ⟨b, hbs⟩ : ∃ y, y = w.heap.size := ⟨_, rfl⟩
  obtain ⟨w2, hw2⟩ : ∃ y, y = (((w.alloc (.cells (mcells k n t s od (.slice a m c)).toArray 62)).alloc (.cells #[.int .i64 x, .slice pa pn pc] 68)).alloc (.cells mz 62)).alloc (.cells pz 68) := ⟨_, rfl⟩
  have hb2 : Below w.heap.size w w2 := by rw [hw2]; exact ((((Below.refl _ _).alloc (Nat.le_refl _) _).alloc (by simp) _).alloc (by simp; omega) _).alloc (by simp; omega) _
  have hs2 : w2.heap.size = b + 4 := by rw [hw2, hbs]; simp
  have HM := hid (show w2.heap[b]? = some (.cells (mcells k n t s od (.slice a m c)).toArray 62 (0, 0)) from by
    rw [hw2, hbs]
    exact heap_alloc (heap_alloc (heap_alloc (heap_new _ _) _) _) _)
  have HP := hid (show w2.heap[b + 1]? = some (.cells #[.int .i64 x, .slice pa pn pc] 68 (0, 0)) from by
    rw [hw2]
    have h := heap_new (w.alloc (.cells (mcells k n t s od (.slice a m c)).toArray 62)) (.cells #[.int .i64 x, .slice pa pn pc] 68)
    rw [show (w.alloc (.cells (mcells k n t s od (.slice a m c)).toArray 62)).heap.size = b + 1 from by rw [hbs]; simp] at h
    exact heap_alloc (heap_alloc h _) _)
  have HZ := hid (show w2.heap[b + 2]? = some (.cells mz 62 (0, 0)) from by
    rw [hw2]
    have h := heap_new ((w.alloc (.cells (mcells k n t s od (.slice a m c)).toArray 62)).alloc (.cells #[.int .i64 x, .slice pa pn pc] 68)) (.cells mz 62)
    rw [show ((w.alloc (.cells (mcells k n t s od (.slice a m c)).toArray 62)).alloc (.cells #[.int .i64 x, .slice pa pn pc] 68)).heap.size = b + 2 from by rw [hbs]; simp] at h
    exact heap_alloc h _)
  have HY := hid (show w2.heap[b + 3]? = some (.cells pz 68 (0, 0)) from by
    rw [hw2]
    have h := heap_new (((w.alloc (.cells (mcells k n t s od (.slice a m c)).toArray 62)).alloc (.cells #[.int .i64 x, .slice pa pn pc] 68)).alloc (.cells mz 62)) (.cells pz 68)
    rw [show (((w.alloc (.cells (mcells k n t s od (.slice a m c)).toArray 62)).alloc (.cells #[.int .i64 x, .slice pa pn pc] 68)).alloc (.cells mz 62)).heap.size = b + 3 from by rw [hbs]; simp] at h
    exact h)
  have HB2 := hid hb2
  have HS2 := hid hs2
  have HBB := hid hbs
  have HW2 := hid hw2
  have HOD := hid hod
  have HD2 := hid (hb.below hb2)
  have HP2 := hid (hp.below hb2)
  have HPW := hid hp
  clear hbs hb2 hs2 hb hp hw2
  go_enter Tryz.func43, Tryz.ntmps43
  go_upto_region 1 with fail
  change Code.wp _ _ _ _ ((((w.alloc (.cells (mcells k n t s od (.slice a m c)).toArray 62)).alloc (.cells #[.int .i64 x, .slice pa pn pc] 68)).alloc (.cells mz 62)).alloc (.cells pz 68))
  rw [← HW2.out, ← HBB.out]
  clear HW2
  have d36 := (show ManAt w2 b k n t s od (.slice a m c) from HM.out).c hod |>.2.2.2.2
  have hlt2 : b < w2.heap.size := by have := HS2.out; omega
  go_wp2_with (first
    | ((have h0 := HD2.out)
       (refine wpList_cloneD (by rfl) (.tmp 6) (.tmp 8) (by rfl) w2.heap.size (by rfl) (heap_new _ _) a m c D (by rfl) (h0.below ((Below.refl _ _).alloc (Nat.le_refl _) _)) hm ?_)
       (intro a5 c5 w5 hd5 hl5 hk5)
       (have hbl : Below w2.heap.size w2 w5 := ((Below.refl _ _).alloc (Nat.le_refl w2.heap.size) (.cells #[] 23)).trans (hk5.below (by simp) (Nat.le_refl _)))
       (have HM5 := hid (show ManAt w5 b k n t s od (.slice a m c) from (hbl.block _ (by have := HS2.out; omega)).trans HM.out))
       (have HP5 := hid ((hbl.block _ (by have := HS2.out; omega)).trans HP.out))
       (have HZ5 := hid ((hbl.block _ (by have := HS2.out; omega)).trans HZ.out))
       (have HY5 := hid ((hbl.block _ (by have := HS2.out; omega)).trans HY.out))
       (have HB5 := hid (HB2.out.trans (hbl.mono HB2.out.size)))
       (have HD5 := hid hd5)
       (have HL5 := hid hl5)
       (have HS5 := hid (show b + 4 ≤ w5.heap.size from by have h1 := hbl.size; have h2 := HS2.out; omega))
       (have g36 := (HM5.out.c HOD.out).2.2.2.2)
       (have f36 := free_of_heap HM5.out 36)
       (have HM6 := hid (man_rowO HM5.out HOD.out (.slice a5 m c5)))
       (have HO6 := hid (show ∀ j : Nat, j ≠ b → (w5.setCell ⟨b, 36, none⟩ (.slice a5 m c5)).heap[j]? = w5.heap[j]? from fun j hj => heap_setCell_other w5 ⟨b, 36, none⟩ j (.slice a5 m c5) (by show j ≠ b; exact hj)))
       (have p1 : (w5.setCell ⟨b, 36, none⟩ (.slice a5 m c5)).cell? ⟨b + 1, 1, none⟩ = some (.slice pa pn pc) := by rw [cell_of_heap ((HO6.out (b + 1) (by omega)).trans HP5.out)]; rfl)
       (have p2 : w5.cell? ⟨b + 1, 1, none⟩ = some (.slice pa pn pc) := by rw [cell_of_heap HP5.out]; rfl)
       (have hlt5 : b + 1 < w5.heap.size := by have := HS5.out; omega)
       (have HS6 := hid (show (w5.setCell ⟨b, 36, none⟩ (.slice a5 m c5)).heap.size = w5.heap.size from by simp))
       (have HB6 := hid (show Below w.heap.size w (w5.setCell ⟨b, 36, none⟩ (.slice a5 m c5)) from HB5.out.setCell (by have := HBB.out; show w.heap.size ≤ b; omega) _))
       (have HK6 := hid ((Kept.refl b w5).setCell (p := ⟨b, 36, none⟩) rfl (.slice a5 m c5)))
       (clear hd5 hl5 hk5 hbl d36 h0 HD2 HP2 HM HP HZ HY))
    | ((have h0 := HS6.out)
       (have hnew : ((w5.setCell ⟨b, 36, none⟩ (.slice a5 m c5)).alloc (.cells #[] 5)).heap[w5.heap.size]? = some (.cells #[] 5 (0, 0)) := by
          have h := heap_new (w5.setCell ⟨b, 36, none⟩ (.slice a5 m c5)) (.cells #[] 5)
          rw [h0] at h
          exact h)
       (refine wpList_clone (by rfl) (.tmp 11) (.tmp 13) (by rfl) w5.heap.size (by rfl) hnew pa pn pc l (by rfl) ((HPW.out.below HB6.out).below ((Below.refl _ _).alloc (Nat.le_refl _) _)) hpnil (by omega) ?_)
       (intro a7 c7 w7 hb7 hc7 hl7 hn7 hk7)
       (have hbl : Below w5.heap.size (w5.setCell ⟨b, 36, none⟩ (.slice a5 m c5)) w7 := ((Below.refl w5.heap.size (w5.setCell ⟨b, 36, none⟩ (.slice a5 m c5))).alloc (by rw [h0]; exact Nat.le_refl _) (.cells #[] 5)).trans (hk7.below (by simp) (Nat.le_refl _)))
       (have hs5 := HS5.out)
       (have HM7 := hid ((hbl.block b (by omega)).trans HM6.out))
       (have HP7 := hid ((hbl.block (b + 1) (by omega)).trans ((HO6.out (b + 1) (by omega)).trans HP5.out)))
       (have HZ7 := hid ((hbl.block (b + 2) (by omega)).trans ((HO6.out (b + 2) (by omega)).trans HZ5.out)))
       (have HY7 := hid ((hbl.block (b + 3) (by omega)).trans ((HO6.out (b + 3) (by omega)).trans HY5.out)))
       (have HB7 := hid (HB6.out.trans (hbl.mono (by have := HBB.out; omega))))
       (have HBS7 := hid hb7)
       (have HC7 := hid hc7)
       (have HL7 := hid hl7)
       (have HN7 := hid hn7)
       (have HD7 := hid ((HD5.out.kept HK6.out (fun ad e => by have h1 := HL5.out ad e; have h2 := HS2.out; omega)).below (by rw [h0]; exact hbl)))
       (have g1 : w7.cell? ⟨b + 1, 1, none⟩ = some (.slice pa pn pc) := by rw [cell_of_heap HP7.out]; rfl)
       (have f1 := free_of_heap HP7.out 1)
       (clear hb7 hc7 hl7 hn7 hk7 hbl h0 hnew p1 p2 g36 f36)))
  obtain ⟨w8, hw8⟩ : ∃ y, y = w7.setCell ⟨b + 1, 1, none⟩ (.slice a7 pn c7) := ⟨_, rfl⟩
  have HO8 := hid (show ∀ j : Nat, j ≠ b + 1 → w8.heap[j]? = w7.heap[j]? from fun j hj => by rw [hw8]; exact heap_setCell_other w7 ⟨b + 1, 1, none⟩ j (.slice a7 pn c7) (by show j ≠ b + 1; exact hj))
  have HP8 := hid (show w8.heap[b + 1]? = some (.cells #[.int .i64 x, .slice a7 pn c7] 68 (0, 0)) from by
    rw [hw8, heap_set HP7.out 1 (.slice a7 pn c7)]
    rfl)
  have HM8 := hid ((HO8.out b (by omega)).trans HM7.out)
  have HZ8 := hid ((HO8.out (b + 2) (by omega)).trans HZ7.out)
  have HY8 := hid ((HO8.out (b + 3) (by omega)).trans HY7.out)
  have HB8 := hid (show Below w.heap.size w w8 from by rw [hw8]; exact HB7.out.setCell (by have := HBB.out; show w.heap.size ≤ b + 1; omega) _)
  have HK8 := hid (show Kept (b + 1) w7 w8 from by rw [hw8]; exact (Kept.refl (b + 1) w7).setCell (p := ⟨b + 1, 1, none⟩) rfl (.slice a7 pn c7))
  have HML := hid (mcells_length k n t s od (.slice a5 m c5) HOD.out)
  have HON := hid (mcells_one k n t s od a5 m c5)
  have HIFa := hid (show (Tryz.prog.info? 62).map (·.size) = some (mcells k n t s od (.slice a5 m c5)).toArray.size from by rw [List.size_toArray, HML.out]; kernel_rfl)
  have HSZa := hid (show mz.size = (mcells k n t s od (.slice a5 m c5)).toArray.size from by rw [mz_sizeO]; rw [List.size_toArray, HML.out])
  have HIFp := hid (show (Tryz.prog.info? 68).map (·.size) = some (#[.int .i64 x, .slice a7 pn c7] : Array Value).size from by show _ = some 2; kernel_rfl)
  obtain ⟨MA, hMA⟩ : ∃ y, y = (mcells k n t s od (.slice a5 m c5)).toArray := ⟨_, rfl⟩
  rw [← hMA] at HM8 HON HIFa HSZa
  have HMA := hid hMA
  have HKP := hid (show ∀ wx : World, wx.heap[b]? = w8.heap[b]? → wx.heap[b + 1]? = w8.heap[b + 1]? → (loadVar 62 ⟨b, 0, none⟩).run Tryz.prog wx = .ok (.agg MA) wx ∧ (loadVar 68 ⟨b + 1, 0, none⟩).run Tryz.prog wx = .ok (.agg #[.int .i64 x, .slice a7 pn c7]) wx from fun wx h1 h2 =>
    ⟨run_loadVar_row wx b 62 62 MA (0, 0) _ (h1.trans HM8.out) Tryz.underlying62 rfl HIFa.out, run_loadVar_row wx (b + 1) 68 68 _ (0, 0) _ (h2.trans HP8.out) Tryz.underlying68 rfl HIFp.out⟩)
  rw [← hw8]
  clear hw8 hMA g1 f1
  go_upto_region 3 with fail
  refine wp_region_held_drew (S := (fun wx : World => (loadVar 62 ⟨b, 0, none⟩).run Tryz.prog wx = .ok (.agg MA) wx ∧ (loadVar 68 ⟨b + 1, 0, none⟩).run Tryz.prog wx = .ok (.agg #[.int .i64 x, .slice a7 pn c7]) wx)) (by kernel_rfl) (HKP.out _ rfl rfl) (fun hHeld => ?_)
  refine wpAnyH_take (i := 0) (oi := { dst := some 16, op := Op.load 62 (Operand.tmp 2), type := 62, pos := "law.go:122", after := #[], guard := none }) (v := .agg MA) rfl (by kernel_rfl) (by kernel_rfl) (by kernel_rfl) (fun _ _ _ h => h) (Or.inl ⟨by rfl, ?hy⟩) hHeld ?_
  case hy => (intro w hSw; exact run_load_opP hSw.1)
  try simp only [Act.put, List.setIfInBounds_toArray, List.set_cons_zero, List.set_cons_succ]
  refine wpAnyH_take (i := 1) (oi := { dst := some 17, op := Op.load 68 (Operand.tmp 3), type := 68, pos := "law.go:122", after := #[{ on := 2, ground := Ground.gcOnly Departure.lateStores }], guard := none }) (v := .agg #[.int .i64 x, .slice a7 pn c7]) rfl (by kernel_rfl) (by kernel_rfl) (by kernel_rfl) (fun _ _ _ h => h) (Or.inl ⟨by rfl, ?hy⟩) hHeld ?_
  case hy => (intro w hSw; exact run_load_opP hSw.2)
  try simp only [Act.put, List.setIfInBounds_toArray, List.set_cons_zero, List.set_cons_succ]
  refine wpAnyH_ready (rs := [2]) (by kernel_rfl) (by simp) ?_
  refine AllReadyH.cons (o := { dst := none, op := Op.store 62 (Operand.tmp 4) (Operand.tmp 16), type := 0, pos := "law.go:122", after := #[{ on := 0, ground := Ground.data }, { on := 0, ground := Ground.phase }, { on := 1, ground := Ground.textOnly Departure.lateStores }], guard := none }) rfl (fun K hK => ?_) AllReadyH.nil
  refine step_store_row rfl 62 (.tmp 4) (.tmp 16) rfl (b + 2) mz MA 62 rfl rfl HZ8.out HIFa.out HSZa.out HON.out ?_
  intro w9 hw9 hk9
  have hk9d : Kept (b + 2) w8 w9 := ((Kept.refl (b + 2) w8).drewN 1).trans hk9
  have HK9 := hid hk9d
  have HS8 := hid (show b + 4 ≤ w8.heap.size from by have h := lt_of_heap HY8.out; omega)
  have H39 := hid ((hk9d.block (b + 3) (by have := HS8.out; omega) (by omega)).trans HY8.out)
  have H29 := hid hw9
  have HB9 := hid (HB8.out.trans (hk9d.below HB8.out.size (by have := HBB.out; omega)))
  refine hK.out _ _ (HKP.out _ (hk9d.block b (by have := HS8.out; omega) (by omega)) (hk9d.block (b + 1) (by have := HS8.out; omega) (by omega))) (fun hHeld => ?_)
  have HB0 := hid (hk9d.block b (by have := HS8.out; omega) (by omega))
  have HB1 := hid (hk9d.block (b + 1) (by have := HS8.out; omega) (by omega))
  clear hK K hw9 hk9 hk9d
  try simp only [Act.put]
  refine wpAnyH_ready (rs := [3]) (by kernel_rfl) (by simp) ?_
  refine AllReadyH.cons (o := { dst := none, op := Op.store 68 (Operand.tmp 5) (Operand.tmp 17), type := 0, pos := "law.go:122", after := #[{ on := 1, ground := Ground.data }, { on := 2, ground := Ground.chain }, { on := 0, ground := Ground.phase }, { on := 1, ground := Ground.phase }, { on := 2, ground := Ground.phase }], guard := none }) rfl (fun K hK => ?_) AllReadyH.nil
  refine step_store_row rfl 68 (.tmp 5) (.tmp 17) rfl (b + 3) pz #[.int .i64 x, .slice a7 pn c7] 68 rfl rfl H39.out HIFp.out rfl (piece_allO _ _ _ _) ?_
  intro w10 hw10 hk10
  have HK10 := hid hk10
  have H210 := hid ((hk10.block (b + 2) (lt_of_heap H29.out) (by omega)).trans H29.out)
  have H310 := hid hw10
  have HB10 := hid (HB9.out.trans (hk10.below HB9.out.size (by have := HBB.out; omega)))
  refine hK.out _ _ (HKP.out _ ((hk10.block b (by have h := lt_of_heap H29.out; omega) (by omega)).trans HB0.out) ((hk10.block (b + 1) (by have h := lt_of_heap H29.out; omega) (by omega)).trans HB1.out)) (fun hHeld => ?_)
  clear hK K hw10 hk10
  try simp only [Act.put]
  refine wpAnyH_done (by kernel_rfl) ?_ _
  go_wp2_with fail
  have hr1 := run_loadVar_row (P := Tryz.prog) w10 (b + 2) 62 62 _ (0, 0) _ H210.out Tryz.underlying62 rfl HIFa.out
  have hr2 := run_loadVar_row (P := Tryz.prog) w10 (b + 3) 68 68 _ (0, 0) _ H310.out Tryz.underlying68 rfl HIFp.out
  refine bodyPost_ret (v := .tuple #[.agg MA, .agg #[.int .i64 x, .slice a7 pn c7]]) (results_cc Tryz.results43 rfl hr1 rfl hr2) rfl ⟨a5, c5, a7, c7, by rw [HMA.out], ?_, fun ad e => ?_, ?_, HC7.out, HN7.out, fun ad e => ?_, HB10.out⟩
  · exact ((HD7.out.kept HK8.out (fun ad e => by have h1 := HL5.out ad e; have h2 := HS2.out; omega)).kept HK9.out (fun ad e => by have h1 := HL5.out ad e; have h2 := HS2.out; omega)).kept HK10.out (fun ad e => by have h1 := HL5.out ad e; have h2 := HS2.out; omega)
  · have h1 := HL5.out ad e
    have h2 := HS2.out
    have h3 := HBB.out
    omega
  · have hoff : ∀ q, q < b + 4 → Off q (.slice a7 pn c7) := fun q hq => by
      cases a7 with
      | none => trivial
      | some ad =>
        have h1 := (HL7.out ad rfl).1
        have h2 := HS5.out
        show ad.block ≠ q
        omega
    exact ((HBS7.out.kept HK8.out (hoff _ (by omega))).kept HK9.out (hoff _ (by omega))).kept HK10.out (hoff _ (by omega))
  · have h1 := (HL7.out ad e).1
    have h2 := HS5.out
    have h3 := HBB.out
    omega
end Go.Proofs.YtjgiiciniplbnaaGreatDoor

namespace Go.Proofs.YtjgiiciniplbnaaGreatDoor
open Go Go.RowKit Go.Lib Go.Sort
set_option linter.unusedVariables false

theorem wpList_build0 {P : Program} {ops : Array Oper} {rest : List Oper} {o : Oper} {a : Act} {w : World} {Q : Exit → Act → World → Prop} (hgd : o.guard = none) (t : TypeId) (ho : o.op = .build t #[])
    {cells : Array Value} (hp : P.built t [] = some cells) (h : wpList P ops Q rest (a.put o.dst (.agg cells)) w) : wpList P ops Q (o :: rest) a w :=
  wpList_plain hgd fun K hK => by
    have hv : ((#[] : Array (Nat × Operand)).map fun (i, x) => (i, a.eval x)).toList = [] := by simp
    rw [← hv] at hp
    have hr : (execOp a.eval o).run P w = .ok (.value (.agg cells)) w := by
      unfold execOp
      simp only [ho]
      have h := run_build (P := P) w t _ cells hp
      simp only [Sem.run_bind, h, Result.andThen_ok, Sem.run_pure]
    unfold Oper.wp
    rw [hr]
    exact hK _ _ h
theorem infoMz : (Tryz.prog.info? 62).map (·.size) = some mz.size := by rw [mz_sizeO]; kernel_rfl
set_option maxRecDepth 100000 in
set_option maxHeartbeats 4000000 in
theorem Manifest_nil (w : World) : Calls Tryz.prog 46 #[.pointer none] w fun e w' => e = .returned (.tuple #[.agg mz, .bool false]) ∧ Below w.heap.size w w' := by
  have HBM := hid (show Tryz.prog.built 62 [] = some mz from by kernel_rfl)
  have HIF := hid infoMz
  have HON := hid (show mz.all (·.oneCell') = true from mcells_one 0 0 0 0 _ none 0 0)
  go_enter Tryz.func46, Tryz.ntmps46
  go_wp2_with (first
    | (refine wpList_build0 (by rfl) 62 (by rfl) HBM.out ?_)
    | (refine wpList_store_row (by rfl) 62 (.tmp 2) (.tmp 14) (by rfl) w.heap.size _ mz 62 (by rfl) (by rfl) (heap_new _ _) HIF.out rfl HON.out ?_
       intro w8 hw8 hk8))
  have hres := run_loadVar_row (P := Tryz.prog) w8 w.heap.size 62 62 _ (0, 0) _ hw8 Tryz.underlying62 rfl HIF.out
  refine bodyPost_ret (v := .tuple #[.agg mz, .bool false]) (results_di Tryz.results46 rfl hres rfl) rfl ⟨rfl, ?_⟩
  exact ((Below.refl w.heap.size w).alloc (Nat.le_refl _) (.cells mz 62)).trans (hk8.below (by simp) (Nat.le_refl _))

section
open Go.ChangeShapes Go.WideShapes Go.ChangeAt
variable {H : Type} {enc : TypeId × Value → H} {W : World}
set_option maxRecDepth 100000 in
theorem open_manO {fuel : Nat} {l : List Value} {x : DataW H × List MemPlace} (hf : DataW.trod enc Tryz.prog W 0 (fun _ => true) true fuel 62 l = some x) (hl37 : l.length = 37) :
    ∃ (k n t s : Int) (od : List Nat) (a : Option Addr) (m c : Nat) (D : List (List Nat)), l = mcells k n t s od (.slice a m c) ∧ od.length = 32 ∧ (∀ y ∈ od, y < 256) ∧ Dgs W a m c D := by
  obtain ⟨xs, n, rfl, _, _, hxl, hg⟩ := DataW.trod_struct Tryz.underlying62 hf
  match xs, hxl with
  | [y0, y1, y2, y3, y4, y5], _ =>
  have g0 := hg 0 _ rfl
  have g1 := hg 1 _ rfl
  have g2 := hg 2 _ rfl
  have g3 := hg 3 _ rfl
  have g4 := hg 4 _ rfl
  have g5 := hg 5 _ rfl
  obtain ⟨k, f0, _, w0⟩ := DataW.trod_int Tryz.underlying3 g0
  obtain ⟨n', f1, _, w1⟩ := DataW.trod_int Tryz.underlying3 g1
  obtain ⟨t, f2, _, w2⟩ := DataW.trod_int Tryz.underlying3 g2
  obtain ⟨s, f3, _, w3⟩ := DataW.trod_int Tryz.underlying3 g3
  have e30 : Tryz.prog.cellsOf 23 = 32 := by kernel_rfl
  obtain ⟨od, f4, ho1, ho2⟩ := open_arr32D g4 (by simp; omega)
  obtain ⟨a, m, c, D, f5, hD⟩ := open_dgs g5
  refine ⟨k, n', t, s, od, a, m, c, D, ?_, ho1, ho2, hD⟩
  have r0 : l[0]? = some (.int .i64 k) := chunkL f0
  have r1 : l[1]? = some (.int .i64 n') := chunkL f1
  have r2 : l[2]? = some (.int .i64 t) := chunkL f2
  have r3 : l[3]? = some (.int .i64 s) := chunkL f3
  have r5 : l[36]? = some (.slice a m c) := chunkL f5
  have r4 : ∀ i, i < 32 → l[4 + i]? = (u8s od)[i]? := fun i hi => by
    have h : (List.take 32 (List.drop 4 l))[i]? = (u8s od)[i]? := congrArg (·[i]?) f4
    rw [← h, List.getElem?_take_of_lt hi, List.getElem?_drop]
  have hml := mcells_length k n' t s od (.slice a m c) ho1
  apply List.ext_getElem?
  intro i
  by_cases hi : i < 37
  · rcases (show i = 0 ∨ i = 1 ∨ i = 2 ∨ i = 3 ∨ (∃ j, i = 4 + j ∧ j < 32) ∨ i = 36 from by
      rcases (show i < 4 ∨ i = 36 ∨ (4 ≤ i ∧ i < 36) from by omega) with h | h | h
      · omega
      · exact .inr (.inr (.inr (.inr (.inr h))))
      · exact .inr (.inr (.inr (.inr (.inl ⟨i - 4, by omega, by omega⟩))))) with rfl | rfl | rfl | rfl | ⟨j, rfl, hj⟩ | rfl
    · rw [r0]; rfl
    · rw [r1]; rfl
    · rw [r2]; rfl
    · rw [r3]; rfl
    · rw [r4 j hj]
      unfold mcells
      rw [List.append_assoc, List.getElem?_append_right (by simp), List.getElem?_append_left (by simp [u8s, ho1]; omega)]
      simp
    · rw [r5]
      unfold mcells
      rw [List.getElem?_append_right (by simp [u8s, ho1])]
      simp [u8s, ho1]
  · rw [List.getElem?_eq_none (by omega), List.getElem?_eq_none (by omega)]
/-- the cells of an offer -/
def ocells (k n t s : Int) (od : List Nat) (mv : Value) (x : Int) (pv : Value) (i : Int) : List Value := mcells k n t s od mv ++ ([.int .i64 x, pv, .int .i64 i] : List Value)
set_option maxRecDepth 100000 in
theorem open_offer {base : Nat} {v : Value} {d : DataW H} {p : List MemPlace} (hval : Value.okWide Tryz.prog W .any base 70 v) (h : DataW.Trod enc Tryz.prog W 0 (fun _ => true) true 70 v d p) :
    ∃ (k n t s : Int) (od : List Nat) (a : Option Addr) (m c : Nat) (D : List (List Nat)) (x : Int) (pa : Option Addr) (pn pc : Nat) (l : List Nat) (i : Int), v = .agg (ocells k n t s od (.slice a m c) x (.slice pa pn pc) i).toArray ∧ od.length = 32 ∧ (∀ y ∈ od, y < 256) ∧ Dgs W a m c D ∧ (Lit.int .i64 x).wf = true ∧ By W pa pn pc l ∧ (Lit.int .i64 i).wf = true := by
  obtain ⟨cs, rfl, hsz⟩ := okWide_struct Tryz.underlying70 hval
  rw [show Tryz.prog.cellsOf 70 = 40 from by kernel_rfl] at hsz
  obtain ⟨l⟩ := cs
  have hl : l.length = 40 := by simpa using hsz
  obtain ⟨fuel, hf⟩ := h
  obtain ⟨xs, n, rfl, _, _, hxl, hg⟩ := DataW.trod_struct Tryz.underlying70 hf
  match xs, hxl with
  | [y0, y1, y2], _ =>
  have g0 := hg 0 _ rfl
  have g1 := hg 1 _ rfl
  have g2 := hg 2 _ rfl
  have e37 : Tryz.prog.cellsOf 62 = 37 := by kernel_rfl
  obtain ⟨k, n', t, s, od, a, m, c, D, f0, ho1, ho2, hD⟩ := open_manO g0 (by simp [e37, Value.cells, hl])
  obtain ⟨i, f2, _, w2⟩ := DataW.trod_int Tryz.underlying3 g2
  obtain ⟨zs, n2, rfl, _, _, hzl, hz⟩ := DataW.trod_struct Tryz.underlying68 g1
  match zs, hzl with
  | [z0, z1], _ =>
  have q0 := hz 0 _ rfl
  have q1 := hz 1 _ rfl
  obtain ⟨x, p0, _, wx⟩ := DataW.trod_int Tryz.underlying3 q0
  obtain ⟨pa, pn, pc, ld, p1, hb⟩ := open_by q1
  refine ⟨k, n', t, s, od, a, m, c, D, x, pa, pn, pc, ld, i, ?_, ho1, ho2, hD, wx, hb, w2⟩
  have r0 : ∀ j, j < 37 → l[j]? = (mcells k n' t s od (.slice a m c))[j]? := fun j hj => by
    have h1 := chunkD f0 j hj
    exact h1
  have r2 : l[39]? = some (.int .i64 i) := chunkL f2
  have s0 : ((l.drop 37).take 2)[0]? = some (.int .i64 x) := chunkL p0
  have s1 : ((l.drop 37).take 2)[1]? = some (.slice pa pn pc) := chunkL p1
  have t0 : l[37]? = some (.int .i64 x) := by rw [List.getElem?_take_of_lt (by omega), List.getElem?_drop] at s0; exact s0
  have t1 : l[38]? = some (.slice pa pn pc) := by rw [List.getElem?_take_of_lt (by omega), List.getElem?_drop] at s1; exact s1
  have hml := mcells_length k n' t s od (.slice a m c) ho1
  congr 2
  unfold ocells
  apply List.ext_getElem?
  intro j
  by_cases hj : j < 37
  · rw [r0 j hj, List.getElem?_append_left (by omega)]
  · rw [List.getElem?_append_right (by omega), hml]
    by_cases h40 : j < 40
    · rcases (show j = 37 ∨ j = 38 ∨ j = 39 from by omega) with rfl | rfl | rfl
      · rw [t0]; rfl
      · rw [t1]; rfl
      · rw [r2]; rfl
    · rw [List.getElem?_eq_none (by omega), List.getElem?_eq_none (by simp; omega)]
end
end Go.Proofs.YtjgiiciniplbnaaGreatDoor

namespace Go.Proofs.YtjgiiciniplbnaaGreatDoor
open Go Go.RowKit Go.Lib Go.Sort
set_option linter.unusedVariables false

def cnt (f : Nat → Bool) (m : Nat) : Nat := ((List.range m).filter f).length
theorem cnt_succ (f : Nat → Bool) (m : Nat) : cnt f (m + 1) = cnt f m + (if f m = true then 1 else 0) := by
  unfold cnt
  rw [List.range_succ, List.filter_append, List.length_append]
  congr 1
  simp only [List.filter_cons, List.filter_nil]
  split <;> rfl
theorem cnt_le (f : Nat → Bool) (m : Nat) : cnt f m ≤ m := by
  have := List.length_filter_le f (List.range m)
  simpa [cnt] using this
theorem cnt_mono (f g : Nat → Bool) : ∀ m, (∀ x, x < m → f x = true → g x = true) → cnt f m ≤ cnt g m
  | 0, _ => Nat.le_refl _
  | m + 1, h => by
    rw [cnt_succ, cnt_succ]
    have ih := cnt_mono f g m (fun x hx => h x (by omega))
    by_cases hf : f m = true
    · rw [if_pos hf, if_pos (h m (by omega) hf)]; omega
    · rw [if_neg hf]; omega
theorem cnt_or (f g k : Nat → Bool) : ∀ m, (∀ x, x < m → f x = true → g x = true ∨ k x = true) → cnt f m ≤ cnt g m + cnt k m
  | 0, _ => Nat.le_refl _
  | m + 1, h => by
    rw [cnt_succ, cnt_succ, cnt_succ]
    have ih := cnt_or f g k m (fun x hx => h x (by omega))
    by_cases hf : f m = true
    · rw [if_pos hf]
      rcases h m (by omega) hf with h1 | h1
      · rw [if_pos h1]; omega
      · rw [if_pos h1]; omega
    · rw [if_neg hf]; omega
theorem cnt_stop (f : Nat → Bool) (P : Nat) (h : ∀ i, f i = true → i < P) : ∀ m, P ≤ m → cnt f m = cnt f P
  | 0, hm => by obtain rfl : P = 0 := by omega
                rfl
  | m + 1, hm => by
    by_cases e : P = m + 1
    · rw [e]
    · rw [cnt_succ, cnt_stop f P h m (by omega), if_neg (fun hf => by have := h m hf; omega)]
      rfl
theorem bets_cnt (obj : List Nat) (self : Int) (li : List Int) : (bets obj self li 16).length = cnt (fun i => setL li i && decide (cmpP obj (i : Int) self < 0)) 16 := rfl
/-- a function with one value changed -/
def upd {α : Type} (f : Nat → α) (a : Nat) (v : α) : Nat → α := fun i => if i = a then v else f i
theorem upd_same {α : Type} (f : Nat → α) (a : Nat) (v : α) : upd f a v a = v := if_pos rfl
theorem upd_other {α : Type} (f : Nat → α) (a : Nat) (v : α) (i : Nat) (h : i ≠ a) : upd f a v i = f i := if_neg h
/-- what holds of the peers: H hold, F had a fault, D dropped, S ever held; N are the Keeps sent, L those received -/
structure SInv (obj : List Nat) (P : Nat) (n : Int) (H F D S : Nat → Bool) (N : List (Nat × Nat)) (L : Nat → List Nat) (R : Bool) : Prop where
  i1 : ∀ p, p < P → S p = true → D p = false → F p = false → H p = true
  i2 : ∀ p, H p = true → S p = true
  i3 : ∀ x, x ∈ N → x.1 < P ∧ x.2 < P ∧ S x.1 = true
  i4 : ∀ j, j < P → ∀ x, x ∈ L j → x < P ∧ S x = true
  i5 : ∀ d, d < P → D d = true → n ≤ (cnt (fun x => S x && decide (cmpP obj (x : Int) (d : Int) < 0)) P : Int)
  i6 : ∀ p, D p = true → p < P
  i7 : R = true → (∃ d, d < P ∧ D d = true) ∨ n ≤ (cnt S P : Int)
theorem SInv.start (obj : List Nat) (P : Nat) (n : Int) (H : Nat → Bool) : SInv obj P n H (fun _ => false) (fun _ => false) H [] (fun _ => []) false where
  i1 := fun _ _ h _ _ => h
  i2 := fun _ h => h
  i3 := fun _ h => absurd h List.not_mem_nil
  i4 := fun _ _ _ h => absurd h List.not_mem_nil
  i5 := fun _ _ h => by cases h
  i6 := fun _ h => by cases h
  i7 := fun h => by cases h
variable {obj : List Nat} {P : Nat} {n : Int} {H F D S : Nat → Bool} {N : List (Nat × Nat)} {L : Nat → List Nat} {R : Bool}
/-- enough hold -/
theorem SInv.safe (h : SInv obj P n H F D S N L R) (hP : P ≤ 16) (hr : R = true ∨ n ≤ (cnt H P : Int)) : n ≤ (cnt H P : Int) + (cnt F P : Int) := by
  have live : ∀ G : Nat → Bool, (∀ x, x < P → G x = true → S x = true ∧ D x = false) → cnt G P ≤ cnt H P + cnt F P := fun G hG => cnt_or G H F P fun x hx hg => by
    obtain ⟨h1, h2⟩ := hG x hx hg
    cases hf : F x with
    | true => exact .inr rfl
    | false => exact .inl (h.i1 x hx h1 h2 hf)
  rcases hr with hr | hr
  · by_cases hd : ∃ d, d < P ∧ D d = true
    · obtain ⟨d, hd1, hd2⟩ := hd
      have hmem : d ∈ rkd obj D := (rkd_mem obj D d).2 ⟨by omega, hd2⟩
      have hs := rkd_sorted obj D
      have hm := fun x => rkd_mem obj D x
      generalize rkd obj D = RL at *
      match RL, hmem with
      | e :: RL', _ =>
        have he := (hm e).1 (by simp)
        rw [List.pairwise_cons] at hs
        have h5 := h.i5 e (h.i6 e he.2) he.2
        have := live (fun x => S x && decide (cmpP obj (x : Int) (e : Int) < 0)) (fun x hx hg => by
          rw [Bool.and_eq_true, decide_eq_true_eq] at hg
          refine ⟨hg.1, ?_⟩
          cases hD : D x with
          | false => rfl
          | true =>
            have hx2 := (hm x).2 ⟨by omega, hD⟩
            rw [List.mem_cons] at hx2
            have hc : cfN obj x e < 0 := hg.2
            rcases hx2 with rfl | hx2
            · have := cfN_self obj x; omega
            · have h1 := hs.1 x hx2
              have h2 := cfN_neg obj e x
              omega)
        omega
    · rcases h.i7 hr with h7 | h7
      · exact absurd h7 hd
      · have := live S (fun x hx hg => ⟨hg, by
          cases hD : D x with
          | false => rfl
          | true => exact absurd ⟨x, hx, hD⟩ hd⟩)
        omega
  · omega
theorem SInv.reach (h : SInv obj P n H F D S N L R) : SInv obj P n H F D S N L (R || decide (n ≤ (cnt H P : Int))) where
  i1 := h.i1
  i2 := h.i2
  i3 := h.i3
  i4 := h.i4
  i5 := h.i5
  i6 := h.i6
  i7 := fun hr => by
      rw [Bool.or_eq_true, decide_eq_true_eq] at hr
      rcases hr with hr | hr
      · exact h.i7 hr
      · have := cnt_mono H S P (fun x _ hx => h.i2 x hx)
        exact .inr (by omega)
theorem SInv.keep (h : SInv obj P n H F D S N L R) {a b : Nat} (ha : a < P) (hb : b < P) (hh : H a = true) : SInv obj P n H F D S (N ++ [(a, b)]) L R where
  i1 := h.i1
  i2 := h.i2
  i4 := h.i4
  i5 := h.i5
  i6 := h.i6
  i7 := h.i7
  i3 := fun x hx => by
      rcases List.mem_append.1 hx with hx | hx
      · exact h.i3 x hx
      · simp only [List.mem_cons, List.not_mem_nil, or_false] at hx
        subst hx
        exact ⟨ha, hb, h.i2 a hh⟩
theorem SInv.come (h : SInv obj P n H F D S N L R) {a b : Nat} (hx : (a, b) ∈ N) : SInv obj P n H F D S N (upd L b (L b ++ [a])) R where
  i1 := h.i1
  i2 := h.i2
  i3 := h.i3
  i5 := h.i5
  i6 := h.i6
  i7 := h.i7
  i4 := fun j hj x hm => by
      have h3 := h.i3 _ hx
      by_cases e : j = b
      · subst e
        rw [upd_same] at hm
        rcases List.mem_append.1 hm with hm | hm
        · exact h.i4 j hj x hm
        · simp only [List.mem_cons, List.not_mem_nil, or_false] at hm
          subst hm
          exact ⟨h3.1, h3.2.2⟩
      · rw [upd_other _ _ _ _ e] at hm
        exact h.i4 j hj x hm
theorem SInv.drop (h : SInv obj P n H F D S N L R) (hP : P ≤ 16) {a : Nat} (ha : a < P) (hc : cov obj (a : Int) n ((L a).map Int.ofNat) = true) : SInv obj P n (upd H a false) F (upd D a true) S N L true where
  i1 := fun p hp h1 h2 h3 => by
    by_cases e : p = a
    · subst e; rw [upd_same] at h2; cases h2
    · rw [upd_other _ _ _ _ e] at h2 ⊢
      exact h.i1 p hp h1 h2 h3
  i2 := fun p hp => by
    by_cases e : p = a
    · subst e; rw [upd_same] at hp; cases hp
    · rw [upd_other _ _ _ _ e] at hp; exact h.i2 p hp
  i3 := h.i3
  i4 := h.i4
  i5 := fun d hd h5 => by
    by_cases e : d = a
    · subst e
      unfold cov at hc
      rw [Bool.and_eq_true, decide_eq_true_eq, decide_eq_true_eq, bets_cnt] at hc
      have hin : ∀ i, (setL ((L d).map Int.ofNat) i && decide (cmpP obj (i : Int) (d : Int) < 0)) = true → i < P ∧ S i = true := fun i hi => by
        rw [Bool.and_eq_true] at hi
        have h4 := hi.1
        unfold setL at h4
        rw [mem_ofNat, List.contains_iff_mem] at h4
        exact h.i4 d hd i h4
      have h6 := cnt_stop _ P (fun i hi => (hin i hi).1) 16 hP
      have h7 := cnt_mono (fun i => setL ((L d).map Int.ofNat) i && decide (cmpP obj (i : Int) (d : Int) < 0)) (fun x => S x && decide (cmpP obj (x : Int) (d : Int) < 0)) P (fun x _ hx => by
        have h8 := (hin x hx).2
        rw [Bool.and_eq_true] at hx
        rw [h8, hx.2]
        rfl)
      have h9 := hc.2
      rw [h6] at h9
      omega
    · rw [upd_other _ _ _ _ e] at h5
      exact h.i5 d hd h5
  i6 := fun p hp => by
    by_cases e : p = a
    · subst e; exact ha
    · rw [upd_other _ _ _ _ e] at hp; exact h.i6 p hp
  i7 := fun _ => .inl ⟨a, ha, upd_same _ _ _⟩
theorem SInv.get (h : SInv obj P n H F D S N L R) (a : Nat) (ha : a < P) : SInv obj P n (upd H a true) F D (upd S a true) N L R where
  i1 := fun p hp h1 h2 h3 => by
    by_cases e : p = a
    · subst e; exact upd_same _ _ _
    · rw [upd_other _ _ _ _ e] at h1 ⊢
      exact h.i1 p hp h1 h2 h3
  i2 := fun p hp => by
    by_cases e : p = a
    · subst e; exact upd_same _ _ _
    · rw [upd_other _ _ _ _ e] at hp ⊢; exact h.i2 p hp
  i3 := fun x hx => by
    have h3 := h.i3 x hx
    refine ⟨h3.1, h3.2.1, ?_⟩
    by_cases e : x.1 = a
    · rw [e]; exact upd_same _ _ _
    · rw [upd_other _ _ _ _ e]; exact h3.2.2
  i4 := fun j hj x hx => by
    have h4 := h.i4 j hj x hx
    refine ⟨h4.1, ?_⟩
    by_cases e : x = a
    · rw [e]; exact upd_same _ _ _
    · rw [upd_other _ _ _ _ e]; exact h4.2
  i5 := fun d hd h5 => by
    have h6 := h.i5 d hd h5
    have h7 := cnt_mono (fun x => S x && decide (cmpP obj (x : Int) (d : Int) < 0)) (fun x => upd S a true x && decide (cmpP obj (x : Int) (d : Int) < 0)) P (fun x _ hx => by
      rw [Bool.and_eq_true] at hx ⊢
      refine ⟨?_, hx.2⟩
      by_cases e : x = a
      · rw [e]; exact upd_same _ _ _
      · rw [upd_other _ _ _ _ e]; exact hx.1)
    omega
  i6 := h.i6
  i7 := fun hr => by
    rcases h.i7 hr with h7 | h7
    · exact .inl h7
    · refine .inr ?_
      have h8 := cnt_mono S (upd S a true) P (fun x _ hx => by
        by_cases e : x = a
        · rw [e]; exact upd_same _ _ _
        · rw [upd_other _ _ _ _ e]; exact hx)
      omega
theorem SInv.fault (h : SInv obj P n H F D S N L R) (a : Nat) : SInv obj P n (upd H a false) (upd F a true) D S N L R where
  i1 := fun p hp h1 h2 h3 => by
    by_cases e : p = a
    · subst e; rw [upd_same] at h3; cases h3
    · rw [upd_other _ _ _ _ e] at h3 ⊢
      exact h.i1 p hp h1 h2 h3
  i2 := fun p hp => by
    by_cases e : p = a
    · subst e; rw [upd_same] at hp; cases hp
    · rw [upd_other _ _ _ _ e] at hp; exact h.i2 p hp
  i3 := h.i3
  i4 := h.i4
  i5 := h.i5
  i6 := h.i6
  i7 := h.i7
theorem SInv.forget (h : SInv obj P n H F D S N L R) (a : Nat) : SInv obj P n H F D S N (upd L a []) R where
  i1 := h.i1
  i2 := h.i2
  i3 := h.i3
  i5 := h.i5
  i6 := h.i6
  i7 := h.i7
  i4 := fun j hj x hx => by
      by_cases e : j = a
      · subst e; rw [upd_same] at hx; exact absurd hx List.not_mem_nil
      · rw [upd_other _ _ _ _ e] at hx; exact h.i4 j hj x hx
end Go.Proofs.YtjgiiciniplbnaaGreatDoor
