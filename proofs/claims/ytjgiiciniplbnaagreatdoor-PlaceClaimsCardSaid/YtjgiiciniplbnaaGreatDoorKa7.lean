/-
  Blocked: with one claim. · The reference's sizes and Valid. · Two digests are compared. · The given arguments that are a slice of bytes, or a piece. · Two digests that read alike are equal; a guarded append. · Digests in memory; a copy of a list of digests. · The reference's Length; which sizes are allowed. · PieceDigest of any index. · Two digests are compared. · CheckPiece of digest and of the reference. · A Gather without pieces: NewGather, Indices, Ready. · Ready and Indices of a Gather. · check of a Gather, over what ID and CheckPiece answer.
-/
import Derived.Test.YtjgiiciniplbnaaGreatDoorKa6
import Derived.Test.YtjgiiciniplbnaaGreatDoorKa3
import Derived.Test.YtjgiiciniplbnaaGreatDoorKa2
import Derived.ChangeKeysEq
import Derived.Test.YtjgiiciniplbnaaGreatDoorKa1
import Derived.WalkKit
import Derived.ProofKit
import Derived.OpenShut
import Derived.Deep.SlicePairs
import Derived.Test.YtjgiiciniplbnaaGreatDoorKa4
import Derived.Laws.AppendOwnNone
import Derived.Deep.MidRow
import Derived.Deep.QuietTactic
import Derived.BigQuiet
import Derived.ChangeArms
import Derived.WideShapes
import Derived.Test.YtjgiiciniplbnaaGreatDoorKa5
namespace Go.Proofs.YtjgiiciniplbnaaGreatDoor
open Go Go.RowKit Go.Lib Go.Sort
open Go.Maps (Keyed)
set_option linter.unusedVariables false

/-- a range over a map, as a step of a region -/
theorem step_range_own {H : Type} {P : Program} {w : World} {ops : Array Oper} {o : Oper} {a : Act} {K : Act → World → Prop} {Q : Exit → Act → World → Prop} {E : Prop}
    (hg : o.guard = none) (m : Operand) (t : TypeId) (hop : o.op = Op.range t m) (k e : TypeId) (KK : Keyed P k) (ht : P.underlying t = some (.map k e)) (R : Value → Option (DataW H × List MemPlace)) (b n : Nat) (D : DataW H)
    (hm : a.eval m = .map (some b)) (hown : w.ownsMap P k R b n D)
    (hK : ∀ r w', r = w.heap.size → w'.ranges P k R b r n D (Maps.has D) (Maps.size D) → w.grownBy w' none → w'.heap.size = w.heap.size + 1 → K (a.put o.dst (.pointer (some ⟨r, 0, none⟩))) w') : if Region.wanted o (yielded ops a.tmps) = true then Oper.wp P o a w K Q else E := by
  rw [if_pos (by simp [Region.wanted, hg])]
  obtain ⟨w', hrun, r1, r2, r3⟩ := hown.range KK ht
  unfold Oper.wp
  simp [execOp, hop, hm, hrun, Result.andThen]
  exact hK _ w' rfl r1 r2 r3
theorem ownsMap_below {H : Type} {P : Program} {k : TypeId} {R : Value → Option (DataW H × List MemPlace)} {w w' : World} {b n : Nat} {D : DataW H} (h : w.ownsMap P k R b n D) (hb : Below w.heap.size w w') : w'.ownsMap P k R b n D := by
  have hlt := h.lt
  obtain ⟨es, clock, h1, F, hs, hD⟩ := h
  exact ⟨es, clock, (hb.block b hlt).trans h1, F, hs, hD⟩
/-- the answer of Blocked, where one claim is noted -/
def blkd (obj : List Nat) (p : Nat) (t : Int) (self clock : Int) (ll lh : List Int) : Bool := (decide (t ≤ clock) && decide (clock - t < 12)) && setL ll p && !setL lh p && decide (cmpP obj (p : Int) self < 0)
set_option maxRecDepth 100000 in
set_option maxHeartbeats 16000000 in
theorem Blocked_one (obj : List Nat) (ho : obj.length = 32) (hlt : ∀ x ∈ obj, x < 256) (kl : Lit) (hkl : keyOf Tryz.prog 23 (.agg (u8s obj).toArray) = some kl) (p : Nat) (hp : p < 16) (t : Int) (ht0 : 0 ≤ t) (ht1 : t < 18446744073709551616) (cb ob ib : Nat)
    (self clock : Int) (hc0 : 0 ≤ clock) (hc1 : clock < 18446744073709551616) (al : Option Addr) (nl cl : Nat) (ll : List Int) (ah : Option Addr) (nh ch : Nat) (lh : List Int) (w : World) (V : Vars w shaRound shaStart) (hc : Cl1 w cb ob ib kl p t) (hil : Is w (.slice al nl cl) ll) (hnl : nl ≤ 1000000) (hih : Is w (.slice ah nh ch) lh) (hnh : nh ≤ 1000000) :
    Calls Tryz.prog 39 #[.pointer (some ⟨cb, 0, none⟩), .agg (u8s obj).toArray, .int .i64 self, .int .u64 clock, .slice al nl cl, .slice ah nh ch] w fun e w' => e = .returned (.bool (blkd obj p t self clock ll lh)) ∧ Below w.heap.size w w' := by
  obtain ⟨w1, hw1⟩ : ∃ y, y = w.alloc (.cells (u8s obj).toArray 23) := ⟨_, rfl⟩
  have hb1 : Below w.heap.size w w1 := by rw [hw1]; exact (Below.refl _ _).alloc (Nat.le_refl _) _
  have HR0 := hid (show OwnD w1 w.heap.size obj from by rw [hw1]; exact heap_new _ _)
  have HC := hid hc
  have HB1 := hid hb1
  have HW1 := hid hw1
  have HNL := hid (newPeerSet_any al nl cl ll w1 (hil.belowP hb1) hnl)
  have HNH := hid (fun (wx : World) (h : Below w.heap.size w wx) => newPeerSet_any ah nh ch lh wx (hih.belowP h) hnh)
  have HBT := hid (fun (wx : World) (h : Below w.heap.size w wx) => Better_any obj ho hlt (p : Int) self wx (V.below h))
  have HCU := hid (fun wx => isCurrent_any t clock ht0 ht1 hc0 hc1 wx)
  have HIF := hid (show (Tryz.prog.info? 23).map (·.size) = some (u8s obj).length from by rw [show (u8s obj).length = 32 from by simp [u8s, ho]]; kernel_rfl)
  have hdef : blkd obj p t self clock ll lh = ((decide (t ≤ clock) && decide (clock - t < 12)) && setL ll p && !setL lh p && decide (cmpP obj (p : Int) self < 0)) := rfl
  obtain ⟨R, hR⟩ : ∃ R, R = blkd obj p t self clock ll lh := ⟨_, rfl⟩
  rw [← hR] at hdef ⊢
  generalize decide (cmpP obj (p : Int) self < 0) = B4 at *
  generalize (decide (t ≤ clock) && decide (clock - t < 12)) = B1 at *
  have HDEF := hid hdef
  have hl1 := bools_length (setL ll)
  have hl2 := bools_length (setL lh)
  obtain ⟨BL, hBL⟩ : ∃ y, y = bools (setL ll) := ⟨_, rfl⟩
  obtain ⟨BH, hBH⟩ : ∃ y, y = bools (setL lh) := ⟨_, rfl⟩
  rw [← hBL] at HNL hl1
  rw [← hBH] at HNH hl2
  have HBL := hid hBL
  have HBH := hid hBH
  have HI1 := hid (show (Tryz.prog.info? 126).map (·.size) = some BL.toArray.size from by rw [List.size_toArray, hl1]; kernel_rfl)
  have HI2 := hid (show (Tryz.prog.info? 126).map (·.size) = some BH.toArray.size from by rw [List.size_toArray, hl2]; kernel_rfl)
  have HS1 := hid (show (16 : Nat) = BL.toArray.size from by rw [List.size_toArray, hl1])
  have HS2 := hid (show (16 : Nat) = BH.toArray.size from by rw [List.size_toArray, hl2])
  have HA1 := hid (show BL.toArray.all (·.oneCell') = true from all_oneCell_toArray (by rw [hBL]; exact bools_one _))
  have HA2 := hid (show BH.toArray.all (·.oneCell') = true from all_oneCell_toArray (by rw [hBH]; exact bools_one _))
  obtain ⟨OB, hOB⟩ : ∃ y, y = (u8s obj).toArray := ⟨_, rfl⟩
  have HLD := hid (show ∀ wx : World, Below w1.heap.size w1 wx → (loadVar 23 ⟨w.heap.size, 0, none⟩).run Tryz.prog wx = .ok (.agg OB) wx from fun wx h => by
    rw [hOB]
    exact run_loadVar_mid (P := Tryz.prog) wx w.heap.size 0 23 (u8s obj) _ (range_own ((h.block _ (lt_of_heap HR0.out)).trans HR0.out)) Tryz.underlying23 rfl HIF.out)
  have hlu : ∀ wx : World, wx.ownsMap Tryz.prog 23 mapR ob 1 ((DataW.map []).put kl (.lit (.int .i64 (ib : Int)))) → (Instr.lookup 128 (.map (some ob)) (.agg OB) false).run Tryz.prog wx = .ok (.map (some ib)) wx := fun wx hx => by
    obtain ⟨v, ps, h1, h2⟩ := hx.lookup keyedD Tryz.underlying128 (zeroM _) (zd := .nil) (zp := []) rfl (key := .agg OB) (by rw [hOB]; exact hkl)
    rw [Maps.atKey_put_same Maps.isMap_empty (keyedD.key hkl)] at h2
    rw [mapR_some h2] at h1
    exact h1
  have HLU := hid hlu
  have HRX := hid (fun (wx : World) (h : Below w1.heap.size w1 wx) => range_own ((h.block _ (lt_of_heap HR0.out)).trans HR0.out))
  rw [← hOB] at HW1 ⊢
  clear hc hb1 hw1 hil hih hR hdef hl1 hl2 hBL hBH hlu hOB V
  go_enter Tryz.func39, Tryz.ntmps39
  go_upto_region 1 with fail
  rw [← HW1.out]
  go_wp2_with fail
  refine HNL.out.mono ?_
  rintro e w2 ⟨rfl, hb2⟩
  have HB2 := hid (HB1.out.trans (hb2.mono HB1.out.size))
  have HX2 := hid hb2
  clear hb2
  go_wp2_with fail
  refine (HNH.out w2 HB2.out).mono ?_
  rintro e w3 ⟨rfl, hb3⟩
  have HB3 := hid (HB2.out.trans (hb3.mono HB2.out.size))
  have HX3 := hid (HX2.out.trans (hb3.mono HX2.out.size))
  clear hb3 HNL HNH
  obtain ⟨Z, hZ⟩ : ∃ y : Obj, y = .cells (bools fun _ => false).toArray 126 := ⟨_, rfl⟩
  have hz3 : w1.heap.size ≤ w3.heap.size := HX3.out.size
  have HHN := hid (show ((w3.alloc (.cells (bools fun _ => false).toArray 126)).alloc (.cells (bools fun _ => false).toArray 126)).heap[w3.heap.size + 1]? = some (.cells (bools fun _ => false).toArray 126 (0, 0)) from by
    have h := heap_new (w3.alloc (.cells (bools fun _ => false).toArray 126)) (.cells (bools fun _ => false).toArray 126)
    have e : (w3.alloc (.cells (bools fun _ => false).toArray 126)).heap.size = w3.heap.size + 1 := by simp
    rw [e] at h
    exact h)
  go_wp2_with (first
    | (refine wpList_store_row (by rfl) 126 (.tmp 13) (.tmp 20) (by rfl) w3.heap.size _ BL.toArray 126 (by rfl) (by rfl) (heap_alloc (heap_new _ _) _) HI1.out HS1.out HA1.out ?_
       intro w5 hw5 hk5
       have HW5 := hid hw5
       have HK5 := hid hk5
       clear hw5 hk5)
    | (refine wpList_store_row (by rfl) 126 (.tmp 14) (.tmp 22) (by rfl) (w3.heap.size + 1) _ BH.toArray 126 (by rfl) (by rfl) ((HK5.out.block (w3.heap.size + 1) (by simp) (by omega)).trans HHN.out) HI2.out HS2.out HA2.out ?_
       intro w6 hw6 hk6
       have HW6 := hid hw6
       have HK6 := hid hk6
       clear hw6 hk6))
  obtain ⟨s1, hs1⟩ : ∃ y, y = w3.heap.size := ⟨_, rfl⟩
  have hww : w.heap.size ≤ w3.heap.size := HB3.out.size
  have hall : Below w3.heap.size w3 w6 := by
    have h1 : Below w3.heap.size w3 ((w3.alloc (.cells (bools fun _ => false).toArray 126)).alloc (.cells (bools fun _ => false).toArray 126)) := ((Below.refl _ _).alloc (Nat.le_refl _) _).alloc (by simp) _
    have h2 := h1.trans (HK5.out.below h1.size (Nat.le_refl _))
    exact h2.trans (HK6.out.below h2.size (by omega))
  have HB6 := hid (HB3.out.trans (hall.mono HB3.out.size))
  have HX6 := hid (HX3.out.trans (hall.mono HX3.out.size))
  have HO1 := hid (show OwnB w6 s1 (setL ll) from by
    unfold OwnB
    rw [hs1, HK6.out.block _ (lt_of_heap HW5.out) (by omega), HW5.out, HBL.out])
  have HO2 := hid (show OwnB w6 (s1 + 1) (setL lh) from by
    unfold OwnB
    rw [hs1, HW6.out, HBH.out])
  have hs1w : w.heap.size ≤ s1 := by rw [hs1]; exact hww
  have HC6 := hid (show w6.heap[cb]? = some (.cells #[.map (some ob)] 130 (0, 0)) from (HB6.out.block cb (lt_of_heap HC.out.blk)).trans HC.out.blk)
  have HM6 := hid (ownsMap_below HC.out.out HB6.out)
  have HN6 := hid (ownsMap_below HC.out.inn HB6.out)
  have HKP := hid (show ∀ wx, Below w6.heap.size w6 wx → Below w6.heap.size w6 wx ∧ wx.cell? ⟨cb, 0, none⟩ = some (.map (some ob)) ∧ (loadVar 23 ⟨w.heap.size, 0, none⟩).run Tryz.prog wx = .ok (.agg OB) wx ∧ (Instr.lookup 128 (.map (some ob)) (.agg OB) false).run Tryz.prog wx = .ok (.map (some ib)) wx from fun wx h =>
    ⟨h, cell_of_heap ((h.block cb (lt_of_heap HC6.out)).trans HC6.out) 0, HLD.out wx (HX6.out.trans (h.mono HX6.out.size)), HLU.out wx (ownsMap_below HM6.out h)⟩)
  have HSS := hid hs1
  rw [← hs1]
  clear hall hs1 hww hz3 HHN HW5 HW6 HK5 HK6 hZ
  refine wp_region_held_drew (S := (fun wx => Below w6.heap.size w6 wx ∧ wx.cell? ⟨cb, 0, none⟩ = some (.map (some ob)) ∧ (loadVar 23 ⟨w.heap.size, 0, none⟩).run Tryz.prog wx = .ok (.agg OB) wx ∧ (Instr.lookup 128 (.map (some ob)) (.agg OB) false).run Tryz.prog wx = .ok (.map (some ib)) wx)) (by kernel_rfl) (HKP.out _ (bel_drewN (Below.refl _ _) 1)) (fun hHeld => ?_)
  refine wpAnyH_take (i := 0) (oi := { dst := some 23, op := Op.move (Operand.tmp 0), type := 40, pos := "claims.go:44", after := #[], guard := none }) (v := ?_) rfl (by kernel_rfl) (by kernel_rfl) (by kernel_rfl) (fun _ _ _ h => h) (Or.inl ⟨by rfl, ?hy⟩) hHeld ?_
  case hy => (intro w hSw; (try dsimp only at hSw); obtain ⟨_, _, _, _⟩ := hSw; go_simp; all_goals (with_reducible rfl))
  try simp only [Act.put, List.setIfInBounds_toArray, List.set_cons_zero, List.set_cons_succ]
  refine wpAnyH_take (i := 1) (oi := { dst := some 24, op := Op.nilCheck (Operand.tmp 23), type := 0, pos := "claims.go:44", after := #[{ on := 0, ground := Ground.data }], guard := none }) (v := ?_) rfl (by kernel_rfl) (by kernel_rfl) (by kernel_rfl) (fun _ _ _ h => h) (Or.inl ⟨by rfl, ?hy⟩) hHeld ?_
  case hy => (intro w hSw; (try dsimp only at hSw); obtain ⟨_, _, _, _⟩ := hSw; go_simp; all_goals (with_reducible rfl))
  try simp only [Act.put, List.setIfInBounds_toArray, List.set_cons_zero, List.set_cons_succ]
  refine wpAnyH_take (i := 2) (oi := { dst := some 25, op := Op.fieldAddr 130 (Operand.tmp 24) 0, type := 0, pos := "claims.go:44", after := #[{ on := 1, ground := Ground.data }], guard := none }) (v := ?_) rfl (by kernel_rfl) (by kernel_rfl) (by kernel_rfl) (fun _ _ _ h => h) (Or.inl ⟨by rfl, ?hy⟩) hHeld ?_
  case hy => (intro w hSw; (try dsimp only at hSw); obtain ⟨_, _, _, _⟩ := hSw; go_simp; all_goals (with_reducible rfl))
  try simp only [Act.put, List.setIfInBounds_toArray, List.set_cons_zero, List.set_cons_succ]
  refine wpAnyH_take (i := 3) (oi := { dst := some 26, op := Op.load 128 (Operand.tmp 25), type := 128, pos := "claims.go:44", after := #[{ on := 2, ground := Ground.data }], guard := none }) (v := ?_) rfl (by kernel_rfl) (by kernel_rfl) (by kernel_rfl) (fun _ _ _ h => h) (Or.inl ⟨by rfl, ?hy⟩) hHeld ?_
  case hy => (intro w hSw; (try dsimp only at hSw); obtain ⟨_, _, _, _⟩ := hSw; go_simp; all_goals (with_reducible rfl))
  try simp only [Act.put, List.setIfInBounds_toArray, List.set_cons_zero, List.set_cons_succ]
  refine wpAnyH_take (i := 4) (oi := { dst := some 27, op := Op.load 23 (Operand.tmp 7), type := 23, pos := "claims.go:44", after := #[], guard := none }) (v := .agg OB) rfl (by kernel_rfl) (by kernel_rfl) (by kernel_rfl) (fun _ _ _ h => h) (Or.inl ⟨by rfl, ?hy⟩) hHeld ?_
  case hy => (intro w hSw; exact run_load_opP hSw.2.2.1)
  try simp only [Act.put, List.setIfInBounds_toArray, List.set_cons_zero, List.set_cons_succ]
  refine wpAnyH_take (i := 5) (oi := { dst := some 28, op := Op.lookup 128 (Operand.tmp 26) (Operand.tmp 27) false, type := 132, pos := "claims.go:44", after := #[{ on := 3, ground := Ground.data }, { on := 4, ground := Ground.data }], guard := none }) (v := .map (some ib)) rfl (by kernel_rfl) (by kernel_rfl) (by kernel_rfl) (fun _ _ _ h => h) (Or.inl ⟨by rfl, ?hy⟩) hHeld ?_
  case hy => (intro w hSw; exact run_lookup_op hSw.2.2.2)
  try simp only [Act.put, List.setIfInBounds_toArray, List.set_cons_zero, List.set_cons_succ]
  refine wpAnyH_ready (rs := [6]) (by kernel_rfl) (by simp) ?_
  refine AllReadyH.cons (o := { dst := some 29, op := Op.range 132 (Operand.tmp 28), type := 0, pos := "claims.go:44", after := #[{ on := 5, ground := Ground.data }], guard := none }) rfl (fun K hK => ?_) AllReadyH.nil
  refine step_range_own rfl (.tmp 28) _ rfl 3 43 keyedI Tryz.underlying132 (plainElem (H := Unit) Tryz.prog 43) ib 1 _ rfl HN6.out.drew ?_
  intro r w7 hr hrg hg7 hsz7
  have HRG7 := hid hrg
  have G7 : Below w6.heap.size w6 w7 := (bel_drewN (Below.refl w6.heap.size w6) 1).grown hg7 (by simp) (fun q hq => by cases hq)
  have hr6 : w6.heap.size ≤ r := by rw [hr]; simp
  clear hr hrg hg7 hsz7
  refine hK.out _ _ (HKP.out _ G7) (fun hHeld => ?_)
  clear hK K hHeld
  try simp only [Act.put, List.setIfInBounds_toArray, List.set_cons_zero, List.set_cons_succ]
  refine wpAnyH_done (by kernel_rfl) ?_ _
  go_wp2_with fail
  have HG7 := hid G7
  have HSUB := hid (show ∀ kl', Maps.has ((DataW.map [] : DataW Unit).put (.int .i64 (p : Int)) (.lit (.int .u64 t))) kl' = true → kl' = .int .i64 (p : Int) from fun kl' h => by
    by_cases e : kl' = .int .i64 (p : Int)
    · exact e
    · rw [Maps.has_put_other e] at h
      cases h)
  have HTIE := hid (show Maps.has ((DataW.map [] : DataW Unit).put (.int .i64 (p : Int)) (.lit (.int .u64 t))) (.int .i64 (p : Int)) = false → R = false from fun h => by
    rw [Maps.has_put_same Maps.isMap_empty (show WideAt.IsKeyLit (.int .i64 (p : Int)) from trivial)] at h
    cases h)
  have HAT := hid (show ((DataW.map [] : DataW Unit).put (.int .i64 (p : Int)) (.lit (.int .u64 t))).atKey (.int .i64 (p : Int)) .nil = .lit (.int .u64 t) from Maps.atKey_put_same Maps.isMap_empty (show WideAt.IsKeyLit (.int .i64 (p : Int)) from trivial) _ _)
  generalize (DataW.map [] : DataW Unit).put (.int .i64 (p : Int)) (.lit (.int .u64 t)) = DD at *
  clear G7
  go_loopw [15] (fun _ wr => ∃ (left : Lit → Bool) (cnt : Nat), Hid (wr.ranges Tryz.prog 3 (plainElem (H := Unit) Tryz.prog 43) ib r 1 DD left cnt) ∧ Hid (Below w6.heap.size w6 wr) ∧ Hid (∀ kl', left kl' = true → kl' = .int .i64 (p : Int)) ∧ Hid (left (.int .i64 (p : Int)) = false → R = false)) (fun _ wr => wr.rangeLeft ib r)
  case atStart => exact ⟨_, _, HRG7, HG7, HSUB, HTIE⟩
  case round =>
    obtain ⟨left, cnt, HRG, HBW, HL, HT⟩ := hrel
    go_wp2_with (first
      | (at_next; refine wpList_next_ranges_ii _ rfl _ rfl 3 43 .i64 .u64 keyedI Tryz.underlying3 Tryz.underlying43 ib r 1 _ _ _ rfl HRG.out ?_ ?_)
      | go_in)
    · intro _ hl0
      have e : R = false := HT.out (hl0 _)
      subst e
      go_wp2
      go_ret
      exact ⟨rfl, HB6.out.trans (HBW.out.mono HB6.out.size)⟩
    · intro x c w8 cnt1 hwx hwc hlx hat hrg1 hlt1 hg1 hs1' hen
      have ex := HL.out _ hlx
      simp only [Lit.int.injEq, true_and] at ex
      have hat2 := hat .nil
      rw [ex, HAT.out] at hat2
      simp only [DataW.lit.injEq, Lit.int.injEq, true_and] at hat2
      subst ex
      subst hat2
      have hb8 : Below w6.heap.size w6 w8 := HBW.out.grown hg1 HBW.out.size (fun q hq => by cases hq; exact hr6)
      have HB8 := hid hb8
      have HR1 := hid hrg1
      have HL1 := hid hlt1
      have HLF := hid HRG.out.left_eq
      have HM := hid (show w8.rangeLeft ib r < wr.rangeLeft ib r from by rw [hrg1.left_eq, HRG.out.left_eq]; exact hlt1)
      have HREL := hid (show R = false → ∃ (left : Lit → Bool) (cnt : Nat), Hid (w8.ranges Tryz.prog 3 (plainElem (H := Unit) Tryz.prog 43) ib r 1 DD left cnt) ∧ Hid (Below w6.heap.size w6 w8) ∧ Hid (∀ kl', left kl' = true → kl' = .int .i64 (p : Int)) ∧ Hid (left (.int .i64 (p : Int)) = false → R = false) from fun hR =>
        ⟨_, _, hid hrg1, hid hb8, hid (fun kl' h => HL.out kl' (by simp only [Bool.and_eq_true] at h; exact h.1)), hid (fun _ => hR)⟩)
      have d1 := (HO1.out.below hb8).cell p hp
      have d2 := (HO2.out.below hb8).cell p hp
      have HBT8 := hid (HBT.out w8 (HB6.out.trans (hb8.mono HB6.out.size)))
      have HRG8 := hid (HRX.out w8 (HX6.out.trans (hb8.mono HX6.out.size)))
      have hp16 : (p : Int) < 16 := by omega
      have hp0 : (0 : Int) ≤ (p : Int) := by omega
      have HD2 := HDEF
      generalize setL ll p = e1 at *
      generalize setL lh p = e2 at *
      clear hat hrg1 hlt1 hg1 hs1' hlx hwx hwc hb8
      go_wp2_with fail
      refine (HCU.out w8).mono ?_
      rintro e w9 ⟨rfl, rfl⟩
      cases B1
      · have HRF := hid (HREL.out (by rw [HD2.out]; rfl))
        go_wp2_with fail
        exact ⟨HRF.out, HM.out⟩
      · cases e1
        · have HRF := hid (HREL.out (by rw [HD2.out]; rfl))
          go_wp2_with fail
          exact ⟨HRF.out, HM.out⟩
        · cases e2
          · go_wp2_with (refine wpList_load_wantP (by rfl) 23 (.tmp 7) (by rfl) w.heap.size 0 (by rfl) (u8s obj) _ HRG8.out Tryz.underlying23 rfl HIF.out ?_)
            refine HBT8.out.mono ?_
            rintro e w10 ⟨rfl, hb10⟩
            have hg10 : w8.grownBy w10 none := ⟨hb10.os, hb10.tape, hb10.output, hb10.size, fun k hk _ => hb10.block k hk⟩
            have hr10 := HR1.out.kept hg10 (by simp) (by simp)
            have HR10 := hid hr10
            have hb6 := HB8.out.trans (hb10.mono HB8.out.size)
            have HB10 := hid hb6
            have HM10 := hid (show w10.rangeLeft ib r < wr.rangeLeft ib r from by rw [hr10.left_eq, HLF.out]; exact HL1.out)
            clear hg10 hr10 hb6 hb10
            cases B4
            · have hR : R = false := by rw [HD2.out]; rfl
              have HRF := hid hR
              clear hR
              go_wp2_with fail
              exact ⟨⟨_, _, HR10, HB10, hid (fun kl' h => HL.out kl' (by simp only [Bool.and_eq_true] at h; exact h.1)), hid (fun _ => HRF.out)⟩, HM10.out⟩
            · have hR : R = true := by rw [HD2.out]; rfl
              subst hR
              go_wp2_with fail
              go_ret
              exact ⟨rfl, HB6.out.trans (HB10.out.mono HB6.out.size)⟩
          · have HRF := hid (HREL.out (by rw [HD2.out]; rfl))
            go_wp2_with fail
            exact ⟨HRF.out, HM.out⟩
end Go.Proofs.YtjgiiciniplbnaaGreatDoor

namespace Go.Proofs.YtjgiiciniplbnaaGreatDoor
open Go Go.RowKit
set_option linter.unusedVariables false

set_option maxRecDepth 100000 in
set_option maxHeartbeats 2000000 in
theorem sizes_any (k n t : Int) (w : World) :
    Calls Tryz.prog 134 #[.int .i64 k, .int .i64 n, .int .i64 t] w fun e w' => e = .returned (.bool (vcB k n t)) ∧ w = w' := by
  by_cases h1 : 1 ≤ k
  case neg =>
    have HB := hid (show vcB k n t = false from by unfold vcB; exact decide_eq_false (fun h => h1 h.1))
    go_enter Tryz.func134, Tryz.ntmps134
    go_wp2
    go_ret
    exact ⟨by rw [HB.out]; rfl, rfl⟩
  by_cases h2 : k ≤ n
  case neg =>
    have HB := hid (show vcB k n t = false from by unfold vcB; exact decide_eq_false (fun h => h2 h.2.1))
    go_enter Tryz.func134, Tryz.ntmps134
    go_wp2
    go_ret
    exact ⟨by rw [HB.out]; rfl, rfl⟩
  by_cases h3 : n ≤ t
  case neg =>
    have HB := hid (show vcB k n t = false from by unfold vcB; exact decide_eq_false (fun h => h3 h.2.2.1))
    go_enter Tryz.func134, Tryz.ntmps134
    go_wp2
    go_ret
    exact ⟨by rw [HB.out]; rfl, rfl⟩
  by_cases h4 : t ≤ 255
  case neg =>
    have HB := hid (show vcB k n t = false from by unfold vcB; exact decide_eq_false (fun h => h4 h.2.2.2))
    go_enter Tryz.func134, Tryz.ntmps134
    go_wp2
    go_ret
    exact ⟨by rw [HB.out]; rfl, rfl⟩
  have HB := hid (show vcB k n t = true from by unfold vcB; exact decide_eq_true ⟨h1, h2, h3, h4⟩)
  go_enter Tryz.func134, Tryz.ntmps134
  go_wp2
  go_ret
  exact ⟨by rw [HB.out]; rfl, rfl⟩

set_option maxRecDepth 100000 in
set_option maxHeartbeats 2000000 in
theorem valid_any (k n t s : Int) (od : List Nat) (a : Option Addr) (m c : Nat) (h : od.length = 32) (w : World) :
    Calls Tryz.prog 104 #[.agg (mcells k n t s od (.slice a m c)).toArray] w fun e w' => e = .returned (.bool (manB k n t s m)) ∧ Below w.heap.size w w' := by
  have hM : ManAt (w.alloc (.cells (mcells k n t s od (.slice a m c)).toArray 62)) w.heap.size k n t s od (.slice a m c) := heap_new _ _
  obtain ⟨c0, c1, c2, c3, c36⟩ := hM.c h
  have HB := hid ((Below.refl w.heap.size w).alloc (Nat.le_refl _) (.cells (mcells k n t s od (.slice a m c)).toArray 62))
  have HV := hid (fun w => sizes_any k n t w)
  obtain ⟨w1, hw1⟩ : ∃ w1, w1 = w.alloc (.cells (mcells k n t s od (.slice a m c)).toArray 62) := ⟨_, rfl⟩
  rw [← hw1] at c0 c1 c2 c3 c36 HB
  have HE := hid (show manB k n t s m = (vcB k n t && decide (0 ≤ s ∧ s ≤ 8192) && decide ((m : Int) = t)) from rfl)
  clear hM h
  go_enter Tryz.func104, Tryz.ntmps104
  go_upto_region 1 with fail
  change Code.wp _ _ _ _ (w.alloc (.cells (mcells k n t s od (.slice a m c)).toArray 62))
  rw [← hw1]
  clear hw1
  go_wp2_with fail
  refine (HV.out w1).mono ?_
  rintro e w2 ⟨rfl, rfl⟩
  generalize vcB k n t = b at *
  cases b with
  | false =>
    have HE2 := hid (show manB k n t s m = false from by rw [HE.out]; rfl)
    go_wp2
    go_ret
    exact ⟨by rw [HE2.out]; rfl, HB.out⟩
  | true =>
    by_cases h1 : 0 ≤ s
    case neg =>
      have HE2 := hid (show manB k n t s m = false from by rw [HE.out, decide_eq_false (fun h => h1 h.1)]; rfl)
      go_wp2
      go_ret
      exact ⟨by rw [HE2.out]; rfl, HB.out⟩
    by_cases h2 : s ≤ 8192
    case neg =>
      have HE2 := hid (show manB k n t s m = false from by rw [HE.out, decide_eq_false (fun h => h2 h.2)]; rfl)
      go_wp2
      go_ret
      exact ⟨by rw [HE2.out]; rfl, HB.out⟩
    by_cases hm : (m : Int) = t
    · have HE2 := hid (show manB k n t s m = true from by rw [HE.out, decide_eq_true ⟨h1, h2⟩, decide_eq_true hm]; rfl)
      subst hm
      go_wp2
      go_ret
      exact ⟨by rw [HE2.out]; rfl, HB.out⟩
    · have HE2 := hid (show manB k n t s m = false from by rw [HE.out, decide_eq_false hm, Bool.and_false])
      have hmb : ((m : Int) == t) = false := by simpa using hm
      go_wp2
      go_ret
      exact ⟨by rw [HE2.out]; rfl, HB.out⟩
theorem range_of_heapI {w : World} {b : Nat} {cs : List Value} {T : TypeId} (h : w.heap[b]? = some (.cells cs.toArray T (0, 0))) : w.rangeAt b 0 cs := fun j v hj => by
  rw [Nat.zero_add, cell_of_heap h, List.getElem?_toArray]
  exact hj
theorem eqItems_any (d : Nat) (l r : List Nat) (w : World) : ∀ is : List Nat, (∀ i ∈ is, i < l.length ∧ i < r.length) → (Op.eqItems (d + 1) 5 1 (u8s l).toArray (u8s r).toArray is).run Tryz.prog w = .ok (is.all fun i => l.getD i 0 == r.getD i 0) w
  | [], _ => by simp [Op.eqItems]
  | i :: is, h => by
    obtain ⟨hi, hj⟩ := h i (by simp)
    have hg : (u8s l).toArray[i * 1]? = some (.int .u8 ((l.getD i 0 : Nat) : Int)) := by
      simp [u8s, hi]
    have hg' : (u8s r).toArray[i * 1]? = some (.int .u8 ((r.getD i 0 : Nat) : Int)) := by
      simp [u8s, hj]
    have hp := run_part_plain (P := Tryz.prog) w (e := 5) (by kernel_rfl) hg
    have hp' := run_part_plain (P := Tryz.prog) w (e := 5) (by kernel_rfl) hg'
    have he := run_equalIn_int (P := Tryz.prog) w d 5 .u8 .u8 ((l.getD i 0 : Nat) : Int) ((r.getD i 0 : Nat) : Int) Tryz.underlying5
    have ih := eqItems_any d l r w is (fun j hj => h j (by simp [hj]))
    by_cases hlr : l.getD i 0 = r.getD i 0
    · have e1 : ((((l.getD i 0 : Nat) : Int)) == ((r.getD i 0 : Nat) : Int)) = true := by rw [hlr]; simp
      have e2 : (l.getD i 0 == r.getD i 0) = true := by rw [hlr]; simp
      rw [List.all_cons, e2, Bool.true_and]
      simp only [Op.eqItems, Sem.run_bind, hp, hp', he, e1, Result.andThen_ok, Bool.not_true, Bool.false_eq_true, if_false, ih]
    · have e1 : ((((l.getD i 0 : Nat) : Int)) == ((r.getD i 0 : Nat) : Int)) = false := by rw [beq_eq_false_iff_ne]; omega
      have e2 : (l.getD i 0 == r.getD i 0) = false := by rw [beq_eq_false_iff_ne]; exact hlr
      rw [List.all_cons, e2, Bool.false_and]
      simp only [Op.eqItems, Sem.run_bind, hp, hp', he, e1, Result.andThen_ok, Bool.not_false, if_true, Sem.run_pure]
theorem all_range_eq (l r : List Nat) (h : l.length = 32) (h' : r.length = 32) : ((List.range 32).all fun i => l.getD i 0 == r.getD i 0) = decide (l = r) := by
  by_cases hlr : l = r
  · subst hlr
    simp
  · rw [decide_eq_false hlr]
    cases hb : ((List.range 32).all fun i => l.getD i 0 == r.getD i 0) with
    | false => rfl
    | true =>
      refine absurd ?_ hlr
      refine List.ext_getElem (h.trans h'.symm) fun i h1 h2 => ?_
      have h3 := List.all_eq_true.1 hb i (List.mem_range.2 (by omega))
      have h4 := eq_of_beq h3
      rw [List.getD_eq_getElem?_getD, List.getD_eq_getElem?_getD, List.getElem?_eq_getElem h1, List.getElem?_eq_getElem h2] at h4
      exact h4
theorem eql_any (l r : List Nat) (h : l.length = 32) (h' : r.length = 32) (w : World) : (Op.equalIn 10000 23 (.agg (u8s l).toArray) (.agg (u8s r).toArray)).run Tryz.prog w = .ok (decide (l = r)) w := by
  have hi0 : (Tryz.prog.info? 5).map (·.size) = some 1 := by kernel_rfl
  obtain ⟨i, hi, _⟩ := Option.map_eq_some_iff.1 hi0
  have hc : Tryz.prog.cellsOf 5 = 1 := by kernel_rfl
  rw [show (10000 : Nat) = 9999 + 1 from rfl, run_equalIn_array w 9999 _ _ Tryz.underlying23 hi, hc]
  rw [← all_range_eq l r h h']
  exact eqItems_any 9998 l r w (List.range 32) fun j hj => by
    have h9 : j < 32 := List.mem_range.1 hj
    omega
end Go.Proofs.YtjgiiciniplbnaaGreatDoor

namespace Go.Proofs.YtjgiiciniplbnaaGreatDoor
open Go.ChangeShapes Go.WideShapes Go.ChangeAt Go.RowKit
set_option linter.unusedVariables false

/-- a slice of bytes that came in -/
def ByD (W : World) (a : Option Addr) (n c : Nat) (l : List Nat) : Prop := Bs W (.slice a n c) l ∧ n ≤ c ∧ (a = none → c = 0)
theorem add_noneD (b o i : Nat) : (⟨b, o, none⟩ : Addr).add i = ⟨b, o + i, none⟩ := by unfold Addr.add; split <;> simp_all

section
variable {H : Type} {enc : TypeId × Value → H} {W : World}

theorem open_byD {fuel : Nat} {cs : List Value} {x : DataW H × List MemPlace} (h : DataW.trod enc Tryz.prog W 0 (fun _ => true) true fuel 66 cs = some x) : ∃ a n c l, cs = [.slice a n c] ∧ ByD W a n c l := by
  rcases open_ints Tryz.underlying66 Tryz.underlying5 (by kernel_rfl) h with ⟨hcs, _⟩ | ⟨a, l, c, zs, hcs, _, hl, hm, hz, _, hcell, hwz⟩
  · exact ⟨none, 0, 0, [], hcs, bs_nil W, Nat.le_refl _, fun _ => rfl⟩
  · exact ⟨some a, l, c, _, hcs, bs_of_ints hl (by simpa using hz) hcell hwz, hl, fun h => by cases h⟩


/-- a piece that came in -/
def PieceW (W : World) (v : Value) : Prop := ∃ (x : Int) (a : Option Addr) (n c : Nat) (l : List Nat), v = .agg #[.int .i64 x, .slice a n c] ∧ (Lit.int .i64 x).wf = true ∧ ByD W a n c l
set_option maxRecDepth 100000 in
theorem open_piece {base : Nat} {v : Value} {d : DataW H} {p : List MemPlace} (hval : Value.okWide Tryz.prog W .any base 68 v) (h : DataW.Trod enc Tryz.prog W 0 (fun _ => true) true 68 v d p) : PieceW W v := by
  obtain ⟨cs, rfl, hsz⟩ := okWide_struct Tryz.underlying68 hval
  rw [show Tryz.prog.cellsOf 68 = 2 from by kernel_rfl] at hsz
  obtain ⟨l⟩ := cs
  match l, hsz with
  | [c0, c1], _ =>
  obtain ⟨fuel, hf⟩ := h
  obtain ⟨xs, n, rfl, _, _, hxl, hg⟩ := DataW.trod_struct Tryz.underlying68 hf
  have e3 : Tryz.prog.cellsOf 3 = 1 := by kernel_rfl
  have e27 : Tryz.prog.cellsOf 66 = 1 := by kernel_rfl
  match xs, hxl with
  | [y0, y1], _ =>
  have g0 := hg 0 _ rfl
  have g1 := hg 1 _ rfl
  simp [Value.cells, e3, e27] at g0 g1
  obtain ⟨x, f0, _, w0⟩ := DataW.trod_int Tryz.underlying3 g0
  obtain ⟨a, n', c, l', f1, hd⟩ := open_byD g1
  simp only [List.cons.injEq, and_true] at f0 f1
  refine ⟨x, a, n', c, l', ?_, w0, hd⟩
  rw [f0, f1]
end
end Go.Proofs.YtjgiiciniplbnaaGreatDoor

namespace Go.Proofs.YtjgiiciniplbnaaGreatDoor
open Go Go.RowKit
set_option linter.unusedVariables false

theorem eqItems_sameD (d : Nat) (l : List Nat) (w : World) : ∀ is : List Nat, (∀ i ∈ is, i < l.length) → (Op.eqItems (d + 1) 5 1 (u8s l).toArray (u8s l).toArray is).run Tryz.prog w = .ok true w
  | [], _ => by simp [Op.eqItems]
  | i :: is, h => by
    have hi := h i (by simp)
    have hg : (u8s l).toArray[i * 1]? = some (.int .u8 ((l.getD i 0 : Nat) : Int)) := by
      simp [u8s, hi]
    have hp := run_part_plain (P := Tryz.prog) w (e := 5) (by kernel_rfl) hg
    have he := run_equalIn_int (P := Tryz.prog) w d 5 .u8 .u8 ((l.getD i 0 : Nat) : Int) ((l.getD i 0 : Nat) : Int) Tryz.underlying5
    have ih := eqItems_sameD d l w is (fun j hj => h j (by simp [hj]))
    simp only [Op.eqItems, Sem.run_bind, hp, he, Result.andThen_ok, beq_self_eq_true, Bool.not_true, Bool.false_eq_true, if_false, ih]
theorem eql_sameD (l : List Nat) (h : l.length = 32) (w : World) : (Op.equalIn 10000 23 (.agg (u8s l).toArray) (.agg (u8s l).toArray)).run Tryz.prog w = .ok true w := by
  have hi0 : (Tryz.prog.info? 5).map (·.size) = some 1 := by kernel_rfl
  obtain ⟨i, hi, _⟩ := Option.map_eq_some_iff.1 hi0
  have hc : Tryz.prog.cellsOf 5 = 1 := by kernel_rfl
  rw [show (10000 : Nat) = 9999 + 1 from rfl, run_equalIn_array w 9999 _ _ Tryz.underlying23 hi, hc]
  have hr : ∀ j ∈ List.range 32, j < l.length := fun j hj => by
    have h9 : j < 32 := List.mem_range.1 hj
    rw [h]
    exact h9
  exact eqItems_sameD 9998 l w (List.range 32) hr
theorem wpList_guarded {P : Program} {ops : Array Oper} {rest : List Oper} {o : Oper} {a : Act} {w : World} {Q : Exit → Act → World → Prop} (hw : Region.wanted o (yielded ops a.tmps) = true) (h : wpList P ops Q ({ o with guard := none } :: rest) a w) : wpList P ops Q (o :: rest) a w := by
  unfold wpList at h ⊢
  rw [if_pos hw]
  rw [if_pos (show Region.wanted { o with guard := none } (yielded ops a.tmps) = true from rfl)] at h
  cases o
  exact h
theorem wpList_cloneG {w : World} {ops : Array Oper} {rest : List Oper} {o : Oper} {a : Act} {Q : Exit → Act → World → Prop} (hw : Region.wanted o (yielded ops a.tmps) = true) (s x : Operand)
    (ho : o.op = .call { callee := .builtin .append, args := #[s, x], argTypes := #[66, 66] }) (g0 : Nat) (hs : a.eval s = .slice (some ⟨g0, 0, none⟩) 0 0) (hg0 : w.heap[g0]? = some (.cells #[] 5 (0, 0)))
    (sa : Option Addr) (m c : Nat) (l : List Nat) (hx : a.eval x = .slice sa m c) (hb : Bs w (.slice sa m c) l) (hnil : sa = none → c = 0) (hm : m ≤ 4611686018427)
    (h : ∀ a' c' w', Bs w' (.slice a' m c') l → m ≤ c' → (∀ ad, a' = some ad → g0 ≤ ad.block ∧ ad.block < w'.heap.size) → (a' = none → c' = 0) → Kept g0 w w' → w'.ownsRow g0 5 1 (.slice a' m c') m (u8s l) → wpList Tryz.prog ops Q rest (a.put o.dst (.slice a' m c')) w') :
    wpList Tryz.prog ops Q (o :: rest) a w :=
  wpList_guarded hw (wpList_cloneB (o := { o with guard := none }) rfl s x ho g0 hs hg0 sa m c l hx hb hnil hm h)
end Go.Proofs.YtjgiiciniplbnaaGreatDoor

namespace Go.Proofs.YtjgiiciniplbnaaGreatDoor
open Go Go.RowKit
set_option linter.unusedVariables false

/-- the cells of digests, one behind the other -/
def dcl (D : List (List Nat)) : List Value := D.flatMap u8s
theorem dcl_length (D : List (List Nat)) (h : ∀ d ∈ D, d.length = 32) : (dcl D).length = 32 * D.length := by
  induction D with
  | nil => rfl
  | cons d r ih =>
    have h1 := ih (fun x hx => h x (List.mem_cons_of_mem _ hx))
    have h2 := h d List.mem_cons_self
    unfold dcl at h1 ⊢
    rw [List.flatMap_cons, List.length_append, h1, List.length_cons]
    simp only [u8s, List.length_map, h2]
    omega
theorem dcl_one (D : List (List Nat)) : ∀ u ∈ dcl D, u.oneCell' = true := fun u hu => by
  unfold dcl at hu
  obtain ⟨d, _, hd⟩ := List.mem_flatMap.1 hu
  exact u8s_oneH d u hd
theorem range_app {w : World} {b o : Nat} {xs ys : List Value} (h1 : w.rangeAt b o xs) (h2 : w.rangeAt b (o + xs.length) ys) : w.rangeAt b o (xs ++ ys) := fun j v hj => by
  by_cases h : j < xs.length
  · rw [List.getElem?_append_left h] at hj
    exact h1 j v hj
  · rw [List.getElem?_append_right (by omega)] at hj
    have h3 := h2 _ v hj
    rwa [show o + xs.length + (j - xs.length) = o + j from by omega] at h3
theorem range_left {w : World} {b o : Nat} {xs ys : List Value} (h : w.rangeAt b o (xs ++ ys)) : w.rangeAt b o xs := fun j v hj => h j v (by rw [List.getElem?_append_left (List.getElem?_eq_some_iff.1 hj).1]; exact hj)
theorem range_right {w : World} {b o : Nat} {xs ys : List Value} (h : w.rangeAt b o (xs ++ ys)) : w.rangeAt b (o + xs.length) ys := fun j v hj => by
  have h1 := h (xs.length + j) v (by rw [List.getElem?_append_right (by omega), Nat.add_sub_cancel_left]; exact hj)
  rwa [← Nat.add_assoc] at h1
theorem dcl_range (w : World) (b : Nat) : ∀ (D : List (List Nat)) (o : Nat), (∀ d ∈ D, d.length = 32) → (∀ j, j < D.length → w.rangeAt b (o + j * 32) (u8s (D.getD j []))) → w.rangeAt b o (dcl D)
  | [], o, _, _ => fun j v hj => by cases hj
  | d :: r, o, hl, h => by
    have h0 := h 0 (by simp)
    rw [Nat.zero_mul, Nat.add_zero] at h0
    have hd : (u8s d).length = 32 := by simp [u8s, hl d List.mem_cons_self]
    refine range_app h0 ?_
    show w.rangeAt b (o + (u8s d).length) _
    rw [hd]
    refine dcl_range w b r (o + 32) (fun x hx => hl x (List.mem_cons_of_mem _ hx)) fun j hj => ?_
    have h1 := h (j + 1) (by simp only [List.length_cons]; omega)
    rw [List.getD_cons_succ] at h1
    rwa [show o + 32 + j * 32 = o + (j + 1) * 32 from by omega]
theorem range_dcl (w : World) (b : Nat) : ∀ (D : List (List Nat)) (o : Nat), (∀ d ∈ D, d.length = 32) → w.rangeAt b o (dcl D) → ∀ j, j < D.length → w.rangeAt b (o + j * 32) (u8s (D.getD j []))
  | [], o, _, _, j, hj => absurd hj (Nat.not_lt_zero _)
  | d :: r, o, hl, h, 0, _ => by
    rw [Nat.zero_mul, Nat.add_zero]
    exact range_left (ys := dcl r) h
  | d :: r, o, hl, h, j + 1, hj => by
    have hd : (u8s d).length = 32 := by simp [u8s, hl d List.mem_cons_self]
    have h1 := range_right (xs := u8s d) (ys := dcl r) h
    rw [hd] at h1
    have h2 := range_dcl w b r (o + 32) (fun x hx => hl x (List.mem_cons_of_mem _ hx)) h1 j (by simpa using hj)
    rw [List.getD_cons_succ]
    rwa [show o + 32 + j * 32 = o + (j + 1) * 32 from by omega] at h2
/-- digests in memory, and the slice's bounds -/
structure Dgs (w : World) (a : Option Addr) (m c : Nat) (D : List (List Nat)) : Prop where
  at_ : DgAt w (.slice a m c) D
  cap : m ≤ c
  nil : a = none → c = 0
theorem Dgs.len {w : World} {a : Option Addr} {m c : Nat} {D : List (List Nat)} (h : Dgs w a m c D) : m = D.length := by
  obtain ⟨a', c', h1, _⟩ := h.at_
  simp only [Value.slice.injEq] at h1
  exact h1.2.1
theorem Dgs.l32 {w : World} {a : Option Addr} {m c : Nat} {D : List (List Nat)} (h : Dgs w a m c D) : ∀ d ∈ D, d.length = 32 := by
  obtain ⟨a', c', _, h2, _⟩ := h.at_
  exact fun d hd => (h2 d hd).1
theorem Dgs.rng {w : World} {a : Option Addr} {m c : Nat} {D : List (List Nat)} (h : Dgs w a m c D) (hne : D ≠ []) : ∃ b o, a = some ⟨b, o, none⟩ ∧ w.rangeAt b o (dcl D) := by
  obtain ⟨a', c', h1, h2, h3⟩ := h.at_
  obtain ⟨b, o, rfl, h4⟩ := h3 hne
  simp only [Value.slice.injEq] at h1
  exact ⟨b, o, h1.1, dcl_range w b D o (fun d hd => (h2 d hd).1) h4⟩
theorem Dgs.below {w w' : World} {a : Option Addr} {m c : Nat} {D : List (List Nat)} (h : Dgs w a m c D) (k : Below w.heap.size w w') : Dgs w' a m c D := by
  refine ⟨?_, h.cap, h.nil⟩
  obtain ⟨a', c', h1, h2, h3⟩ := h.at_
  refine ⟨a', c', h1, h2, fun hne => ?_⟩
  obtain ⟨b, o, e, h4⟩ := h3 hne
  exact ⟨b, o, e, fun j hj => range_below (h4 j hj) k⟩
theorem Dgs.kept {w w' : World} {a : Option Addr} {m c b : Nat} {D : List (List Nat)} (h : Dgs w a m c D) (k : Kept b w w') (hb : ∀ ad, a = some ad → ad.block ≠ b) : Dgs w' a m c D := by
  refine ⟨?_, h.cap, h.nil⟩
  obtain ⟨a', c', h1, h2, h3⟩ := h.at_
  refine ⟨a', c', h1, h2, fun hne => ?_⟩
  obtain ⟨q, o, e, h4⟩ := h3 hne
  simp only [Value.slice.injEq] at h1
  refine ⟨q, o, e, fun j hj u v hu => ?_⟩
  have h5 := h4 j hj u v hu
  rw [World.cell?_of_block (a := ⟨q, o + j * 32 + u, none⟩) (k.block q (World.block_lt_of_cell? _ _ h5) (hb _ (h1.1.trans e)))]
  exact h5
theorem dgs_of_owns {w : World} {base n : Nat} {v : Value} {D : List (List Nat)} (h : w.ownsRow base 23 32 v n (dcl D)) (hl : ∀ d ∈ D, d.length = 32 ∧ ∀ x ∈ d, x < 256) (hn : n = D.length) : ∃ a c, v = .slice a n c ∧ Dgs w a n c D ∧ ∀ ad, a = some ad → base ≤ ad.block := by
  obtain ⟨h1, h2⟩ := h
  rcases h2 with ⟨rfl, rfl⟩ | ⟨g, cap, cur, rfl, h4, h5, h6, h7, h8, h9⟩
  · have hD : D = [] := List.length_eq_zero_iff.1 hn.symm
    subst hD
    exact ⟨none, 0, rfl, ⟨⟨none, 0, rfl, hl, fun e => absurd rfl e⟩, Nat.le_refl _, fun _ => rfl⟩, fun ad e => by cases e⟩
  · refine ⟨_, cap, rfl, ⟨⟨_, cap, by rw [← hn], hl, fun _ => ⟨g, 0, rfl, range_dcl w g D 0 (fun d hd => (hl d hd).1) fun j v hj => ?_⟩⟩, by omega, fun e => by cases e⟩, fun ad e => by cases e; exact h4⟩
    rw [Nat.zero_add, cell_of_heap h5]
    have hj2 := (List.getElem?_eq_some_iff.1 hj).1
    rw [← hj, ← h9, List.getElem?_take_of_lt (by omega)]
    simp
theorem wpList_cloneD {w : World} {ops : Array Oper} {rest : List Oper} {o : Oper} {a : Act} {Q : Exit → Act → World → Prop} (hgd : o.guard = none) (s x : Operand)
    (ho : o.op = .call { callee := .builtin .append, args := #[s, x], argTypes := #[60, 60] }) (g0 : Nat) (hs : a.eval s = .slice (some ⟨g0, 0, none⟩) 0 0) (hg0 : w.heap[g0]? = some (.cells #[] 23 (0, 0)))
    (sa : Option Addr) (m c : Nat) (D : List (List Nat)) (hx : a.eval x = .slice sa m c) (hb : Dgs w sa m c D) (hm : m ≤ 100000)
    (h : ∀ a' c' w', Dgs w' a' m c' D → (∀ ad, a' = some ad → g0 ≤ ad.block) → Kept g0 w w' → wpList Tryz.prog ops Q rest (a.put o.dst (.slice a' m c')) w') :
    wpList Tryz.prog ops Q (o :: rest) a w := by
  obtain ⟨i0, hi, hz0, hz1, hz2⟩ := info_parts info52
  have hown : w.ownsRow g0 23 32 (.slice (some ⟨g0, 0, none⟩) 0 0) 0 [] := ⟨rfl, .inr ⟨g0, 0, #[], rfl, Nat.le_refl _, hg0, Nat.le_refl _, Nat.zero_le _, rfl, rfl⟩⟩
  have hlt := lt_of_heap hg0
  have hlen := hb.len
  have hDl : ∀ d ∈ D, d.length = 32 ∧ ∀ x ∈ d, x < 256 := by obtain ⟨_, _, _, h2, _⟩ := hb.at_; exact h2
  have fin : ∀ v' w', w'.ownsRow g0 23 32 v' m (dcl D) → Kept g0 w w' → wpList Tryz.prog ops Q rest (a.put o.dst v') w' := fun v' w' h1 h2 => by
    obtain ⟨a', c', rfl, h3, h4⟩ := dgs_of_owns h1 hDl hlen
    exact h a' c' w' h3 h4 h2
  by_cases hD : D = []
  · subst hD
    obtain rfl : m = 0 := hlen
    cases sa with
    | none =>
      refine Go.wpList_append_own_none hgd s x _ ho g0 _ i0 32 Tryz.underlying60 hi _ 0 [] hs hown (by rw [hx, hb.nil rfl]) ?_
      exact fin _ _ hown (Kept.refl _ _)
    | some ad =>
      refine Go.wpList_append_own _ hgd s x _ ho g0 23 i0 _ 32 32 Tryz.underlying60 hi hz0 hz1 hz2 rfl (by decide) _ 0 [] hs hown ad 0 c [] hx rfl (fun j u hj => by cases hj) (fun u hu => absurd hu List.not_mem_nil) (by unfold maxLen; omega) (by omega) (by omega) ?_
      intro v' w' hown' hg hn
      exact fin _ _ hown' ⟨hg.os, hg.tape, hg.output, hg.size, fun k hk hkg => hg.block k hk (by intro e; exact hkg (Option.some.inj e))⟩
  · obtain ⟨b, o', rfl, hr⟩ := hb.rng hD
    refine Go.wpList_append_own _ hgd s x _ ho g0 23 i0 _ 32 32 Tryz.underlying60 hi hz0 hz1 hz2 rfl (by decide) _ 0 [] hs hown ⟨b, o', none⟩ m c (dcl D) hx (by rw [dcl_length D (fun d hd => (hDl d hd).1)]; omega) (fun j u hj => by rw [add_noneD]; exact hr j u hj) (dcl_one D) (by unfold maxLen; omega) (by omega) (by omega) ?_
    intro v' w' hown' hg hn
    rw [Nat.zero_add, List.nil_append] at hown'
    exact fin _ _ hown' ⟨hg.os, hg.tape, hg.output, hg.size, fun k hk hkg => hg.block k hk (by intro e; exact hkg (Option.some.inj e))⟩

theorem range_of_heapO {w : World} {b : Nat} {cs : List Value} {T : TypeId} (h : w.heap[b]? = some (.cells cs.toArray T (0, 0))) : w.rangeAt b 0 cs := fun j v hj => by
  rw [Nat.zero_add, cell_of_heap h, List.getElem?_toArray]
  exact hj
theorem mz_sizeO : mz.size = 37 := by kernel_rfl
theorem man_rowO {w : World} {b : Nat} {k n t s : Int} {od : List Nat} {v : Value} (h : ManAt w b k n t s od v) (hod : od.length = 32) (v' : Value) : ManAt (w.setCell ⟨b, 36, none⟩ v') b k n t s od v' := by
  have h1 := heap_set h 36 v'
  unfold ManAt
  rw [h1, List.setIfInBounds_toArray]
  congr 3
  unfold mcells
  rw [List.set_append_right _ _ (by simp [u8s, hod])]
  simp [u8s, hod]
end Go.Proofs.YtjgiiciniplbnaaGreatDoor

namespace Go.Proofs.YtjgiiciniplbnaaGreatDoor
open Go.ChangeShapes Go.WideShapes Go.ChangeAt Go.RowKit
set_option linter.unusedVariables false

def cellND (v : Option Value) : Nat := match v with | some (.int _ n) => n.toNat | _ => 0
theorem chunkL {l : List Value} {off c : Nat} {v : Value} (h : (l.drop off).take c = [v]) : l[off]? = some v := by
  have h1 := getElem?_of_chunk (xs := l.toArray) h
  simpa using h1
section
variable {H : Type} {enc : TypeId × Value → H} {W : World}
theorem open_arr32D {fuel : Nat} {cs : List Value} {x : DataW H × List MemPlace} (h : DataW.trod enc Tryz.prog W 0 (fun _ => true) true fuel 23 cs = some x) (hcs : cs.length = 32) :
    ∃ l : List Nat, cs = u8s l ∧ l.length = 32 ∧ ∀ y ∈ l, y < 256 := by
  have hc1 : Tryz.prog.cellsOf 5 = 1 := by kernel_rfl
  obtain ⟨xs, m, _, _, _, hxl, hall⟩ := DataW.trod_array Tryz.underlying23 h
  have each : ∀ i, i < 32 → ∃ n : Nat, cs[i]? = some (.int .u8 (n : Int)) ∧ n < 256 := fun i hi => by
    have h1 := hall i hi
    rw [hc1, List.getElem?_eq_getElem (show i < xs.length by omega)] at h1
    obtain ⟨n, h2, _, hw⟩ := DataW.trod_int Tryz.underlying5 h1
    have h3 := chunkL h2
    have h4 := bounds_u8 hw
    exact ⟨n.toNat, by rw [Nat.mul_one] at h3; rw [h3, Int.toNat_of_nonneg h4.1], by omega⟩
  refine ⟨(List.range 32).map fun i => cellND cs[i]?, ?_, by simp, fun y hy => ?_⟩
  · apply List.ext_getElem?
    intro i
    by_cases hi : i < 32
    · obtain ⟨n, h1, h2⟩ := each i hi
      rw [h1]
      unfold u8s
      rw [List.getElem?_map, List.getElem?_map, List.getElem?_range hi]
      show _ = some (Value.int .u8 ((cellND cs[i]? : Nat) : Int))
      rw [h1]
      rfl
    · rw [List.getElem?_eq_none (by omega), List.getElem?_eq_none (by simp [u8s]; omega)]
  · obtain ⟨i, hi, rfl⟩ := List.mem_map.1 hy
    obtain ⟨n, h1, h2⟩ := each i (List.mem_range.1 hi)
    rw [h1]
    exact h2
theorem open_dgs {fuel : Nat} {cs : List Value} {x : DataW H × List MemPlace} (h : DataW.trod enc Tryz.prog W 0 (fun _ => true) true fuel 60 cs = some x) : ∃ a m c D, cs = [.slice a m c] ∧ Dgs W a m c D := by
  have hc32 : Tryz.prog.cellsOf 23 = 32 := by kernel_rfl
  rcases Deep.open_slice Tryz.underlying60 h with ⟨hcs, _⟩ | ⟨a, len, cap, m, n, D, Pl, hcs, _, hl, _, hm, _, hx⟩
  · exact ⟨none, 0, 0, [], hcs, ⟨none, 0, rfl, fun d hd => absurd hd List.not_mem_nil, fun e => absurd rfl e⟩, Nat.le_refl _, fun _ => rfl⟩
  · have hm' : m = cap := by simpa using hm
    rw [hc32] at hx
    have each : ∀ i, i < len → ∃ q : List Nat, (q.length = 32 ∧ ∀ y ∈ q, y < 256) ∧ ∀ j, j < 32 → W.cell? ((a.add (i * 32)).add j) = (u8s q)[j]? := fun i hi => by
      obtain ⟨cs', h1, h2⟩ := hx i (by omega)
      obtain ⟨_, hlen, hcell⟩ := World.cells?_some h1
      obtain ⟨l, rfl, hl1, hl2⟩ := open_arr32D h2 hlen
      exact ⟨l, ⟨hl1, hl2⟩, hcell⟩
    obtain ⟨q, hq⟩ := Deep.choose_lt each
    have hlen : ((List.range len).map q).length = len := by simp
    refine ⟨some a, len, cap, (List.range len).map q, hcs, ⟨some a, cap, by rw [hlen], fun d hd => ?_, fun hne => ?_⟩, hl, fun e => by cases e⟩
    · obtain ⟨i, hi, rfl⟩ := List.mem_map.1 hd
      exact (hq i (List.mem_range.1 hi)).1
    · have h0 : 0 < len := by
        rcases Nat.eq_zero_or_pos len with h | h
        · subst h; exact absurd rfl hne
        · exact h
      obtain ⟨b, o, spot⟩ := a
      obtain ⟨⟨h32, _⟩, hc0⟩ := hq 0 h0
      have hc := hc0 0 (by omega)
      rw [List.getElem?_eq_getElem (by simp [u8s, h32])] at hc
      have hspot : spot = none := by simpa [Addr.add] using World.cell?_spot hc
      subst hspot
      refine ⟨b, o, rfl, fun j hj u v hu => ?_⟩
      rw [hlen] at hj
      have e : ((List.range len).map q).getD j [] = q j := by
        rw [List.getD_eq_getElem?_getD, List.getElem?_map, List.getElem?_range hj]; rfl
      rw [e] at hu
      obtain ⟨⟨h32, _⟩, hcj⟩ := hq j hj
      have hu32 : u < 32 := by have := (List.getElem?_eq_some_iff.1 hu).1; simpa [u8s, h32] using this
      have h1 := hcj u hu32
      rw [Deep.add_add, add_noneD, hu, ← Nat.add_assoc] at h1
      exact h1
/-- a manifest that came in -/
def ManW (W : World) (v : Value) : Prop := ∃ (k n t s : Int) (od : List Nat) (a : Option Addr) (m c : Nat) (D : List (List Nat)), v = .agg (mcells k n t s od (.slice a m c)).toArray ∧ od.length = 32 ∧ (∀ y ∈ od, y < 256) ∧ Dgs W a m c D
set_option maxRecDepth 100000 in
theorem open_man {base : Nat} {v : Value} {d : DataW H} {p : List MemPlace} (hval : Value.okWide Tryz.prog W .any base 62 v) (h : DataW.Trod enc Tryz.prog W 0 (fun _ => true) true 62 v d p) : ManW W v := by
  obtain ⟨cs, rfl, hsz⟩ := okWide_struct Tryz.underlying62 hval
  rw [show Tryz.prog.cellsOf 62 = 37 from by kernel_rfl] at hsz
  obtain ⟨l⟩ := cs
  obtain ⟨fuel, hf⟩ := h
  obtain ⟨xs, n, rfl, _, _, hxl, hg⟩ := DataW.trod_struct Tryz.underlying62 hf
  have e3 : Tryz.prog.cellsOf 3 = 1 := by kernel_rfl
  have e30 : Tryz.prog.cellsOf 23 = 32 := by kernel_rfl
  have e60 : Tryz.prog.cellsOf 60 = 1 := by kernel_rfl
  match xs, hxl with
  | [y0, y1, y2, y3, y4, y5], _ =>
  have g0 := hg 0 _ rfl
  have g1 := hg 1 _ rfl
  have g2 := hg 2 _ rfl
  have g3 := hg 3 _ rfl
  have g4 := hg 4 _ rfl
  have g5 := hg 5 _ rfl
  simp only [Value.cells] at g0 g1 g2 g3 g4 g5
  obtain ⟨k, f0, _, w0⟩ := DataW.trod_int Tryz.underlying3 g0
  obtain ⟨n', f1, _, w1⟩ := DataW.trod_int Tryz.underlying3 g1
  obtain ⟨t, f2, _, w2⟩ := DataW.trod_int Tryz.underlying3 g2
  obtain ⟨s, f3, _, w3⟩ := DataW.trod_int Tryz.underlying3 g3
  have hl37 : l.length = 37 := by simpa using hsz
  obtain ⟨od, f4, ho1, ho2⟩ := open_arr32D g4 (by simp; omega)
  obtain ⟨a, m, c, D, f5, hD⟩ := open_dgs g5
  refine ⟨k, n', t, s, od, a, m, c, D, ?_, ho1, ho2, hD⟩
  congr 2
  have r0 : l[0]? = some (.int .i64 k) := chunkL f0
  have r1 : l[1]? = some (.int .i64 n') := chunkL f1
  have r2 : l[2]? = some (.int .i64 t) := chunkL f2
  have r3 : l[3]? = some (.int .i64 s) := chunkL f3
  have r5 : l[36]? = some (.slice a m c) := chunkL f5
  have r4 : ∀ i, i < 32 → l[4 + i]? = (u8s od)[i]? := fun i hi => by
    have h : (List.take 32 (List.drop 4 l))[i]? = (u8s od)[i]? := congrArg (·[i]?) f4
    rw [← h, List.getElem?_take_of_lt hi, List.getElem?_drop]
  have hml := mcells_length k n' t s od (.slice a m c) ho1
  apply List.ext_getElem?
  intro i
  by_cases hi : i < 37
  · rcases (show i = 0 ∨ i = 1 ∨ i = 2 ∨ i = 3 ∨ (∃ j, i = 4 + j ∧ j < 32) ∨ i = 36 from by
      rcases (show i < 4 ∨ i = 36 ∨ (4 ≤ i ∧ i < 36) from by omega) with h | h | h
      · omega
      · exact .inr (.inr (.inr (.inr (.inr h))))
      · exact .inr (.inr (.inr (.inr (.inl ⟨i - 4, by omega, by omega⟩))))) with rfl | rfl | rfl | rfl | ⟨j, rfl, hj⟩ | rfl
    · rw [r0]; rfl
    · rw [r1]; rfl
    · rw [r2]; rfl
    · rw [r3]; rfl
    · rw [r4 j hj]
      unfold mcells
      rw [List.append_assoc, List.getElem?_append_right (by simp), List.getElem?_append_left (by simp [u8s, ho1]; omega)]
      simp
    · rw [r5]
      unfold mcells
      rw [List.getElem?_append_right (by simp [u8s, ho1])]
      simp [u8s, ho1]
  · rw [List.getElem?_eq_none (by omega), List.getElem?_eq_none (by omega)]
end
end Go.Proofs.YtjgiiciniplbnaaGreatDoor

namespace Go.Proofs.YtjgiiciniplbnaaGreatDoor
open Go.RowKit

theorem length_ok (k n : Nat) (h1 : 1 ≤ k) (h2 : k ≤ 255) (h3 : n ≤ 8192) (w : World) :
    Calls Tryz.prog 105 #[.int .i64 k, .int .i64 n] w fun e w' => e = .returned (.tuple #[.int .i64 (plen k n), .int .i64 0]) ∧ w = w' := by
  have b1 : decide ((k : Int) < 1) = false := by simp; omega
  have b2 : decide ((255 : Int) < (k : Int)) = false := by simp; omega
  have b3 : decide ((n : Int) < 0) = false := by simp
  have b4 : decide ((8192 : Int) < (n : Int)) = false := by simp; omega
  have hle := plen_le k n h1
  go_enter Tryz.func105, Tryz.ntmps105
  go_wp2
  go_loop [6] (fun l => ∃ m : Nat, m ≤ plen k n ∧ l = .int .i64 m) (fun l => plen k n - (intOf l).toNat)
  case atStart => exact ⟨0, by omega, rfl⟩
  case round =>
    obtain ⟨m, hm, rfl⟩ := hrel
    have hkm : k * m ≤ 255 * 8192 := Nat.mul_le_mul h2 (by omega)
    have hcast : ((k : Int) * (m : Int)) = ((k * m : Nat) : Int) := rfl
    by_cases hlt : m < plen k n
    · have hc := plen_lt k n m h1 hlt
      generalize k * m = q at *
      generalize plen k n = p at *
      have hd : decide ((q : Int) < (n : Int)) = true := by simp; omega
      go_wp2
      exact ⟨⟨m + 1, by omega, by go_num⟩, by simp [intOf]; omega⟩
    · obtain rfl : m = plen k n := by omega
      have hc := plen_ge k n h1
      generalize k * plen k n = q at *
      generalize hp : plen k n = p at *
      have HP := hid hp
      clear hp
      have hd : decide ((q : Int) < (n : Int)) = false := by simp; omega
      go_wp2
      go_ret2
      exact ⟨by rw [HP.out]; rfl, rfl⟩
theorem length_bad (k n : Int) (h : ¬ (1 ≤ k ∧ k ≤ 255 ∧ 0 ≤ n ∧ n ≤ 8192)) (w : World) :
    Calls Tryz.prog 105 #[.int .i64 k, .int .i64 n] w fun e w' => e = .returned (.tuple #[.int .i64 0, .int .i64 2]) ∧ w = w' := by
  by_cases h1 : k < 1
  · go_enter Tryz.func105, Tryz.ntmps105
    go_wp2
    go_ret2
    exact ⟨rfl, rfl⟩
  · by_cases h2 : 255 < k
    · go_enter Tryz.func105, Tryz.ntmps105
      go_wp2
      go_ret2
      exact ⟨rfl, rfl⟩
    · by_cases h3 : n < 0
      · go_enter Tryz.func105, Tryz.ntmps105
        go_wp2
        go_ret2
        exact ⟨rfl, rfl⟩
      · have h4 : 8192 < n := by omega
        go_enter Tryz.func105, Tryz.ntmps105
        go_wp2
        go_ret2
        exact ⟨rfl, rfl⟩
end Go.Proofs.YtjgiiciniplbnaaGreatDoor

namespace Go.Proofs.YtjgiiciniplbnaaGreatDoor
open Go Go.RowKit
set_option linter.unusedVariables false

set_option maxRecDepth 100000 in
set_option maxHeartbeats 1000000 in
theorem PieceDigest_all (i : Int) (a : Option Addr) (n c : Nat) (KC SH l : List Nat) (w : World) (V : Vars w KC SH) (hl : Bs w (.slice a n c) l) (hc : n ≤ c) (hsz : n ≤ 800000000) :
    Calls Tryz.prog 86 #[.int .i64 i, .slice a n c] w fun e w' => e = .returned (.agg (u8s (dig KC SH ([(i % 65536).toNat / 256, (i % 65536).toNat % 256] ++ l))).toArray) ∧ Below w.heap.size w w' := by
  obtain ⟨x, hxi⟩ : ∃ x : Nat, x = (i % 65536).toNat := ⟨_, rfl⟩
  have hx : x < 65536 := by omega
  rw [← hxi]
  have HV := hid V
  have HL := hid hl
  have hn := hl.len
  have HN := hid hn
  obtain ⟨w1, hw1⟩ : ∃ w1, w1 = w.alloc (.cells (u8s (List.replicate 32 0)).toArray 23) := ⟨_, rfl⟩
  have hb1 : Below w.heap.size w w1 := by rw [hw1]; exact (Below.refl _ _).alloc (Nat.le_refl _) _
  have HR1 := hid (show OwnD w1 w.heap.size (List.replicate 32 0) from by rw [hw1]; exact heap_new _ _)
  have hs1 : w1.heap.size = w.heap.size + 1 := by rw [hw1]; simp
  have HB1 := hid hb1
  have HV1 := hid (V.below hb1)
  have hvlt := V.lt
  clear V hl hb1 hn
  go_enter Tryz.func86, Tryz.ntmps86
  go_wp2_with fail
  change Calls _ _ _ (w.alloc (.cells (u8s (List.replicate 32 0)).toArray 23)) _
  rw [← hw1]
  clear hw1
  refine (NewHash_any KC SH w1 HV1.out).mono ?_
  rintro e w2 ⟨rfl, hM2, hb2⟩
  have HM2 := hid hM2
  have HR2 := hid ((hb2.block w.heap.size (by omega)).trans HR1.out)
  have HB2 := hid (HB1.out.trans (hb2.mono HB1.out.size))
  have HV2 := hid (HV1.out.below hb2)
  obtain ⟨hb, hhb⟩ : ∃ hb, hb = w1.heap.size := ⟨_, rfl⟩
  rw [← hhb] at HM2 ⊢
  have HHB := hid hhb
  have h4 : hb = w.heap.size + 1 := by omega
  have HS1 := hid hs1
  clear hM2 hb2 hhb hs1
  have hbl := HL.out.below HB2.out
  have hoff : 0 < n → Off hb (.slice a n c) := fun h0 => by
    rcases HL.out.addr with ⟨h1, _⟩ | ⟨h1, b, o, c', hv⟩
    · have := HN.out; rw [h1] at this; simp at this; omega
    · simp only [Value.slice.injEq] at hv
      obtain ⟨rfl, _, _⟩ := hv
      have h1 := HL.out.cell 0 (by rw [← HN.out]; exact h0)
      have h2 := World.block_lt_of_cell? _ _ h1
      show b ≠ hb
      simp only at h2
      omega
  have HBL := hid hbl
  have HOF := hid hoff
  clear hbl hoff
  have q3 : 3 ≤ hb := by omega
  have qh : w.heap.size ≤ hb := by omega
  have qn : w.heap.size ≠ hb := by omega
  have H4 := hid h4
  clear h4
  have u1 : IntKind.u16.wrap i = (x : Int) := by rw [IntKind.wrap_u16]; omega
  clear hxi
  have u2 : IntKind.u8.wrap ((x : Int) / 256) = ((x / 256 : Nat) : Int) := by rw [IntKind.wrap_u8]; omega
  have u3 : IntKind.u8.wrap (x : Int) = ((x % 256 : Nat) : Int) := by rw [IntKind.wrap_u8]; omega
  have p1 : x / 256 < 256 := by omega
  have p2 : x % 256 < 256 := by omega
  obtain ⟨xh, hxh⟩ : ∃ y, y = x / 256 := ⟨_, rfl⟩
  obtain ⟨xl, hxl⟩ : ∃ y, y = x % 256 := ⟨_, rfl⟩
  rw [← hxh] at u2 p1
  rw [← hxl] at u3 p2
  have HXH := hid (fun (_ : Unit) => hxh)
  have HXL := hid (fun (_ : Unit) => hxl)
  clear hxh hxl
  have hq2 : ∀ z ∈ [xh, xl], z < 256 := fun z hz => by
    simp only [List.mem_cons, List.not_mem_nil, or_false] at hz
    rcases hz with rfl | rfl
    · exact p1
    · exact p2
  have hhb2 : hb < w2.heap.size := by obtain ⟨_, _, H, _⟩ := HM2.out; exact H.lt
  obtain ⟨w5, hw5⟩ : ∃ w5, w5 = w2.alloc (.cells (u8s [xh, xl]).toArray 5) := ⟨_, rfl⟩
  have hb5 : Below w2.heap.size w2 w5 := by rw [hw5]; exact (Below.refl _ _).alloc (Nat.le_refl _) _
  have M5 := HM2.out.same (hb5.block hb hhb2)
  have V5 := HV2.out.below hb5
  have HR5 := hid ((hb5.block w.heap.size (lt_of_heap HR2.out)).trans HR2.out)
  have BS5 : Bs w5 (.slice (some ⟨w2.heap.size, 0, none⟩) 2 2) [xh, xl] := by rw [hw5]; exact Own.bs (l := [xh, xl]) (heap_new _ _) hq2 2
  have HQ := hid (Write_gen hb 2 2 (some ⟨w2.heap.size, 0, none⟩) KC SH [] [xh, xl] w5 M5 V5 q3 BS5 (Nat.le_refl _) (fun _ => by show w2.heap.size ≠ hb; omega) (by simp))
  have HBL5 := hid (HBL.out.below hb5)
  have HB5 := hid (HB2.out.trans (hb5.mono HB2.out.size))
  have HV5 := hid V5
  have HW5 := hid (fun (_ : Unit) => hw5)
  clear M5 V5 BS5 hb5 hhb2
  go_wp2_with fail
  change Calls _ _ _ (w2.alloc (.cells (u8s [xh, xl]).toArray 5)) _
  rw [← HW5.out ()]
  refine HQ.out.mono ?_
  clear HQ
  rintro e w6 ⟨rfl, hM6, hk6⟩
  rw [List.nil_append] at hM6
  have HM6 := hid hM6
  have HR6 := hid ((hk6.block w.heap.size (lt_of_heap HR5.out) qn).trans HR5.out)
  have HV6 := hid (HV5.out.kept hk6 q3)
  have HB6 := hid (HB5.out.trans (hk6.below HB5.out.size qh))
  have HBL6 := hid (show Bs w6 (.slice a n c) l from by
    by_cases h0 : 0 < n
    · exact HBL5.out.kept hk6 (HOF.out h0)
    · have hl0 : l = [] := List.length_eq_zero_iff.1 (by have := HN.out; omega)
      have hn0 : n = 0 := by omega
      rw [hl0, hn0]
      exact bs_nilH _ _ _)
  have HQ := hid (Write_gen hb n c a KC SH [xh, xl] l w6 HM6.out HV6.out q3 HBL6.out hc HOF.out (by simp; omega))
  clear hM6 hk6
  go_wp2_with fail
  refine HQ.out.mono ?_
  clear HQ
  rintro e w3 ⟨rfl, hM3, hk3⟩
  have HM3 := hid hM3
  have HR3 := hid ((hk3.block w.heap.size (lt_of_heap HR6.out) qn).trans HR6.out)
  have HV3 := hid (HV6.out.kept hk3 q3)
  have HB3 := hid (HB6.out.trans (hk3.below HB6.out.size qh))
  clear hM3 hk3
  go_wp2_with fail
  refine (Sum_any hb KC SH ([xh, xl] ++ l) w3 HM3.out HV3.out q3 (by have := HN.out; simp; omega)).mono ?_
  rintro e w4 ⟨rfl, hb4⟩
  have HR4 := hid ((hb4.block w.heap.size (lt_of_heap HR3.out)).trans HR3.out)
  have hbe := HB3.out.trans (hb4.mono HB3.out.size)
  have hl32 := dig_length KC SH ([xh, xl] ++ l)
  generalize hD : dig KC SH ([xh, xl] ++ l) = D at *
  have HD := hid (fun (_ : Unit) => hD)
  have hl32' : (u8s D).length = 32 := by simp [u8s, hl32]
  have HIF2 := hid (show (Tryz.prog.info? 23).map (·.size) = some (u8s D).toArray.size from by rw [List.size_toArray, hl32']; kernel_rfl)
  have HOLD := hid (show (u8s (List.replicate 32 0)).toArray.size = (u8s D).toArray.size from by rw [List.size_toArray, List.size_toArray, hl32']; rfl)
  have HONE := hid (show (u8s D).toArray.all (·.oneCell') = true from all_oneCell_toArray (u8s_oneH _))
  clear hD hb4 hl32 hl32'
  go_wp2_with (refine wpList_store_row (by rfl) 23 (.tmp 4) (.tmp 22) (by rfl) w.heap.size _ (u8s D).toArray _ (by rfl) (by rfl) HR4.out HIF2.out HOLD.out HONE.out ?_
               intro w8 hw8 hk8)
  have hres : (loadVar 23 ⟨w.heap.size, 0, none⟩).run Tryz.prog w8 = .ok (.agg (u8s D).toArray) w8 := run_loadVar_row _ _ 23 23 _ (0, 0) _ hw8 Tryz.underlying23 rfl HIF2.out
  refine bodyPost_ret (v := .agg (u8s D).toArray) (results_at Tryz.results86 rfl hres) rfl ⟨by rw [← HXH.out (), ← HXL.out ()]; exact congrArg (fun z => Ending.returned (.agg (u8s z).toArray)) (HD.out ()).symm, ?_⟩
  exact hbe.trans (hk8.below hbe.size (Nat.le_refl _))
end Go.Proofs.YtjgiiciniplbnaaGreatDoor

namespace Go.Proofs.YtjgiiciniplbnaaGreatDoor
open Go Go.RowKit
set_option linter.unusedVariables false

/-- what CheckPiece answers -/
def cpE (k n t s : Int) (m : Nat) (D : List (List Nat)) (x : Int) (pl : List Nat) : Int :=
  if manB k n t s m = true then
    (if x < 0 ∨ t ≤ x then 2 else if pl.length ≠ plen k.toNat s.toNat then 10 else if dig shaRound shaStart ([hi8 x, lo8 x] ++ pl) ≠ D.getD x.toNat [] then 20 else 0)
  else 2
theorem pdg_all (i : Int) (a : Option Addr) (n c : Nat) (l : List Nat) (w : World) (V : Vars w shaRound shaStart) (hl : Bs w (.slice a n c) l) (hc : n ≤ c) (hn : a = none → c = 0) (hsz : n ≤ 800000000) :
    Calls Tryz.prog 86 #[.int .i64 i, .slice a n c] w fun e w' => e = .returned (.agg (u8s (dig shaRound shaStart ([hi8 i, lo8 i] ++ l))).toArray) ∧ Below w.heap.size w w' := by
  have e1 : hi8 i = (i % 65536).toNat / 256 := by unfold hi8; omega
  have e2 : lo8 i = (i % 65536).toNat % 256 := by unfold lo8; omega
  rw [e1, e2]
  exact PieceDigest_all i a n c shaRound shaStart l w V hl hc hsz
theorem refd_all (i : Int) (a : Option Addr) (n c : Nat) (l : List Nat) (w : World) (V : Rnds w) (hl : Bs w (.slice a n c) l) (hc : n ≤ c) (hn : a = none → c = 0) (hsz : n ≤ 800000000) :
    Calls Tryz.prog 106 #[.int .i64 i, .slice a n c] w fun e w' => e = .returned (.agg (u8s (dig shaRound shaStart ([hi8 i, lo8 i] ++ l))).toArray) ∧ Below w.heap.size w w' :=
  ofp_any i l a n c w V hl hn hsz

set_option maxRecDepth 100000 in
set_option maxHeartbeats 4000000 in
theorem chp_any (w : World) (V : Vars w shaRound shaStart) (k n t s : Int) (od : List Nat) (a : Option Addr) (m c : Nat) (D : List (List Nat)) (ho : od.length = 32) (hD : Dgs w a m c D) (x : Int) (pa : Option Addr) (pn pc : Nat) (pl : List Nat) (hp : Bs w (.slice pa pn pc) pl) (hpc : pn ≤ pc) (hpn : pa = none → pc = 0) (hsz : pn ≤ 800000000) :
    Calls Tryz.prog 61 #[.agg (mcells k n t s od (.slice a m c)).toArray, .agg #[.int .i64 x, .slice pa pn pc]] w fun e w' => e = .returned (.int .i64 (cpE k n t s m D x pl)) ∧ Below w.heap.size w w' := by
  obtain ⟨w2, hw2⟩ : ∃ y, y = (w.alloc (.cells (mcells k n t s od (.slice a m c)).toArray 62)).alloc (.cells #[.int .i64 x, .slice pa pn pc] 68) := ⟨_, rfl⟩
  have hs1 : (w.alloc (.cells (mcells k n t s od (.slice a m c)).toArray 62)).heap.size = w.heap.size + 1 := by simp
  have hb2 : Below w.heap.size w w2 := by rw [hw2]; exact ((Below.refl _ _).alloc (Nat.le_refl _) _).alloc (by simp) _
  have hM : ManAt w2 w.heap.size k n t s od (.slice a m c) := by
    rw [hw2]
    exact (heap_alloc_old _ _ (by simp)).trans (heap_new _ _)
  have hQ : w2.heap[w.heap.size + 1]? = some (.cells #[.int .i64 x, .slice pa pn pc] 68 (0, 0)) := by rw [hw2, ← hs1]; exact heap_new _ _
  have HB := hid hb2
  have HRA := hid (range_of_heapI hM)
  have HIF := hid (show (Tryz.prog.info? 62).map (·.size) = some (mcells k n t s od (.slice a m c)).length from by rw [mcells_length _ _ _ _ _ _ ho]; kernel_rfl)
  have HE := hid (fun wx => CheckManifest_any k n t s od a m c ho wx)
  have HC := hid (fun (wx : World) (b : Below w2.heap.size w2 wx) => (show wx.cell? ⟨w.heap.size, 0, none⟩ = some (.int .i64 k) ∧ wx.cell? ⟨w.heap.size, 2, none⟩ = some (.int .i64 t) ∧ wx.cell? ⟨w.heap.size, 3, none⟩ = some (.int .i64 s) ∧ wx.cell? ⟨w.heap.size, 36, none⟩ = some (.slice a m c) ∧ wx.cell? ⟨w.heap.size + 1, 0, none⟩ = some (.int .i64 x) ∧ wx.cell? ⟨w.heap.size + 1, 1, none⟩ = some (.slice pa pn pc) from by
    have h0 : ManAt wx w.heap.size k n t s od (.slice a m c) := (b.block _ (lt_of_heap hM)).trans hM
    have h1 := h0.c ho
    have h2 := (b.block _ (lt_of_heap hQ)).trans hQ
    exact ⟨h1.1, h1.2.2.1, h1.2.2.2.1, h1.2.2.2.2, by rw [cell_of_heap h2]; rfl, by rw [cell_of_heap h2]; rfl⟩))
  have HDD := hid hD
  have HPP := hid hp
  have HVV := hid V
  clear hs1 hb2 hM hQ ho hD hp V
  cases hv : manB k n t s m with
  | false =>
    as_aux_lemma =>
      have HR := hid (show cpE k n t s m D x pl = 2 from by unfold cpE; rw [hv]; rfl)
      have hme : manE k n t s m = 2 := by unfold manE; rw [hv]; rfl
      rw [hme] at HE
      clear hv hme
      go_enter Tryz.func61, Tryz.ntmps61
      go_upto_region 1 with fail
      change Code.wp _ _ _ _ ((w.alloc (.cells (mcells k n t s od (.slice a m c)).toArray 62)).alloc (.cells #[.int .i64 x, .slice pa pn pc] 68))
      rw [← hw2]
      clear hw2
      go_wp2_with (refine wpList_load_mid (by rfl) 62 (.tmp 2) (by rfl) w.heap.size 0 (by rfl) (mcells k n t s od (.slice a m c)) _ HRA.out Tryz.underlying62 rfl HIF.out ?_)
      refine (HE.out w2).mono ?_
      rintro e w3 ⟨rfl, hb3⟩
      obtain ⟨c0, c2, c3, c36, p0, p1⟩ := HC.out w3 hb3
      have HB3 := hid (HB.out.trans (hb3.mono HB.out.size))
      go_wp2
      go_ret
      exact ⟨by rw [HR.out]; all_goals rfl, HB3.out⟩
  | true =>
    have hnum : 1 ≤ k ∧ k ≤ n ∧ n ≤ t ∧ t ≤ 255 ∧ 0 ≤ s ∧ s ≤ 8192 ∧ (m : Int) = t := by
      have hok := hv
      unfold manB vnB vcB at hok
      simp only [Bool.and_eq_true, decide_eq_true_eq] at hok
      omega
    have hme : manE k n t s m = 0 := by unfold manE; rw [hv]; rfl
    rw [hme] at HE
    have HU := hid (show cpE k n t s m D x pl = (if x < 0 ∨ t ≤ x then 2 else if pl.length ≠ plen k.toNat s.toNat then 10 else if dig shaRound shaStart ([hi8 x, lo8 x] ++ pl) ≠ D.getD x.toNat [] then 20 else 0) from by unfold cpE; rw [if_pos hv])
    clear hme hv
    by_cases hx0 : x < 0
    · as_aux_lemma =>
      have HR := hid (show cpE k n t s m D x pl = 2 from by rw [HU.out, if_pos (.inl hx0)])
      clear hnum
      go_enter Tryz.func61, Tryz.ntmps61
      go_upto_region 1 with fail
      change Code.wp _ _ _ _ ((w.alloc (.cells (mcells k n t s od (.slice a m c)).toArray 62)).alloc (.cells #[.int .i64 x, .slice pa pn pc] 68))
      rw [← hw2]
      clear hw2
      go_wp2_with (refine wpList_load_mid (by rfl) 62 (.tmp 2) (by rfl) w.heap.size 0 (by rfl) (mcells k n t s od (.slice a m c)) _ HRA.out Tryz.underlying62 rfl HIF.out ?_)
      refine (HE.out w2).mono ?_
      rintro e w3 ⟨rfl, hb3⟩
      obtain ⟨c0, c2, c3, c36, p0, p1⟩ := HC.out w3 hb3
      have HB3 := hid (HB.out.trans (hb3.mono HB.out.size))
      go_wp2
      go_ret
      exact ⟨by rw [HR.out]; all_goals rfl, HB3.out⟩
    by_cases hxt : t ≤ x
    · as_aux_lemma =>
      have HR := hid (show cpE k n t s m D x pl = 2 from by rw [HU.out, if_pos (.inr hxt)])
      clear hnum
      go_enter Tryz.func61, Tryz.ntmps61
      go_upto_region 1 with fail
      change Code.wp _ _ _ _ ((w.alloc (.cells (mcells k n t s od (.slice a m c)).toArray 62)).alloc (.cells #[.int .i64 x, .slice pa pn pc] 68))
      rw [← hw2]
      clear hw2
      go_wp2_with (refine wpList_load_mid (by rfl) 62 (.tmp 2) (by rfl) w.heap.size 0 (by rfl) (mcells k n t s od (.slice a m c)) _ HRA.out Tryz.underlying62 rfl HIF.out ?_)
      refine (HE.out w2).mono ?_
      rintro e w3 ⟨rfl, hb3⟩
      obtain ⟨c0, c2, c3, c36, p0, p1⟩ := HC.out w3 hb3
      have HB3 := hid (HB.out.trans (hb3.mono HB.out.size))
      go_wp2
      go_ret
      exact ⟨by rw [HR.out]; all_goals rfl, HB3.out⟩
    have hor : ¬ (x < 0 ∨ t ≤ x) := by omega
    have HSZ := hid (fun wx => size_ok k.toNat s.toNat (by omega) (by omega) (by omega) wx)
    rw [show ((k.toNat : Nat) : Int) = k from by omega, show ((s.toNat : Nat) : Int) = s from by omega] at HSZ
    have HPL := hid HPP.out.len
    by_cases hln : pl.length ≠ plen k.toNat s.toNat
    · as_aux_lemma =>
      have HR := hid (show cpE k n t s m D x pl = 10 from by rw [HU.out, if_neg hor, if_pos hln])
      have nq : ((pn : Int) != ((plen k.toNat s.toNat : Nat) : Int)) = true := by have := HPL.out; rw [bne_iff_ne]; omega
      clear hnum hor hln
      go_enter Tryz.func61, Tryz.ntmps61
      go_upto_region 1 with fail
      change Code.wp _ _ _ _ ((w.alloc (.cells (mcells k n t s od (.slice a m c)).toArray 62)).alloc (.cells #[.int .i64 x, .slice pa pn pc] 68))
      rw [← hw2]
      clear hw2
      go_wp2_with (refine wpList_load_mid (by rfl) 62 (.tmp 2) (by rfl) w.heap.size 0 (by rfl) (mcells k n t s od (.slice a m c)) _ HRA.out Tryz.underlying62 rfl HIF.out ?_)
      refine (HE.out w2).mono ?_
      rintro e w3 ⟨rfl, hb3⟩
      obtain ⟨c0, c2, c3, c36, p0, p1⟩ := HC.out w3 hb3
      have HB3 := hid (HB.out.trans (hb3.mono HB.out.size))
      clear hb3
      go_wp2_with fail
      refine (HSZ.out w3).mono ?_
      rintro e w4 ⟨rfl, rfl⟩
      go_wp2
      go_ret
      exact ⟨by rw [HR.out]; all_goals rfl, HB3.out⟩
    obtain ⟨i, hi⟩ : ∃ i : Nat, x = (i : Int) := ⟨x.toNat, by omega⟩
    have him : i < D.length := by have := HDD.out.len; omega
    obtain ⟨b, o', ha, hrg⟩ : ∃ b o', a = some ⟨b, o', none⟩ ∧ ∀ j, j < D.length → w.rangeAt b (o' + j * 32) (u8s (D.getD j [])) := by
      obtain ⟨a', c', h1, h2, h3⟩ := HDD.out.at_
      obtain ⟨b, o', e, h4⟩ := h3 (fun h => by rw [h] at him; simp at him)
      simp only [Value.slice.injEq] at h1
      exact ⟨b, o', h1.1.trans e, h4⟩
    have nq : ((pn : Int) != ((plen k.toNat s.toNat : Nat) : Int)) = false := by have := HPL.out; rw [bne_eq_false_iff_eq]; omega
    have hl32 : (D.getD i []).length = 32 := by
      rw [List.getD_eq_getElem?_getD, List.getElem?_eq_getElem him]
      exact HDD.out.l32 _ (List.getElem_mem _)
    have HRG := hid (hrg i him)
    obtain ⟨Y, hY⟩ : ∃ Y, Y = dig shaRound shaStart ([hi8 x, lo8 x] ++ pl) := ⟨_, rfl⟩
    have hY32 : Y.length = 32 := by rw [hY]; exact dig_length _ _ _
    obtain ⟨Z, hZ⟩ : ∃ Z, Z = D.getD i [] := ⟨_, rfl⟩
    rw [← hZ] at HRG hl32
    have HEQ := hid (fun wx => eql_any Y Z hY32 hl32 wx)
    have HIFZ := hid (show (Tryz.prog.info? 23).map (·.size) = some (u8s Z).length from by simp only [u8s, List.length_map, hl32]; kernel_rfl)
    have HFIN := hid (show cpE k n t s m D x pl = if Y ≠ Z then 20 else 0 from by rw [HU.out, if_neg hor, if_neg hln, ← hY, hZ, hi]; rfl)
    have HPD := hid (fun (wx : World) (b : Below w.heap.size w wx) => pdg_all x pa pn pc pl wx (HVV.out.below b) (HPP.out.below b) hpc hpn hsz)
    rw [← hY] at HPD
    have hmi : (i : Int) < (m : Int) := by have := HDD.out.len; omega
    have hxt2 : ¬ t ≤ (i : Int) := by omega
    have hx02 : ¬ (i : Int) < 0 := by omega
    subst hi
    subst ha
    clear hnum hor hln hxt hx0 HU hrg him hY hZ hY32 hl32
    have hfin : ∀ (q : Bool), q = decide (Y = Z) → (if Y ≠ Z then (20 : Int) else 0) = if q then 0 else 20 := by
      rintro q rfl
      by_cases h : Y = Z
      · rw [if_neg (by simpa using h), decide_eq_true h]; rfl
      · rw [if_pos h, decide_eq_false h]; rfl
    generalize hq : decide (Y = Z) = q at *
    have HFN := hid (HFIN.out.trans (hfin q rfl))
    clear hfin HFIN hq
    obtain ⟨x, hx⟩ : ∃ x : Int, x = (i : Int) := ⟨_, rfl⟩
    cases q
    all_goals as_aux_lemma =>
      rw [HFN.out]
      rw [hx] at *
      clear hx
      go_enter Tryz.func61, Tryz.ntmps61
      go_upto_region 1 with fail
      change Code.wp _ _ _ _ ((w.alloc (.cells (mcells k n t s od (.slice (some ⟨b, o', none⟩) m c)).toArray 62)).alloc (.cells #[.int .i64 (i : Int), .slice pa pn pc] 68))
      rw [← hw2]
      clear hw2
      go_wp2_with (refine wpList_load_mid (by rfl) 62 (.tmp 2) (by rfl) w.heap.size 0 (by rfl) (mcells k n t s od (.slice (some ⟨b, o', none⟩) m c)) _ HRA.out Tryz.underlying62 rfl HIF.out ?_)
      refine (HE.out w2).mono ?_
      rintro e w3 ⟨rfl, hb3⟩
      obtain ⟨c0, c2, c3, c36, p0, p1⟩ := HC.out w3 hb3
      have HB3 := hid (HB.out.trans (hb3.mono HB.out.size))
      clear hb3
      go_wp2_with fail
      refine (HSZ.out w3).mono ?_
      rintro e w4 ⟨rfl, rfl⟩

      have hne : Nonempty (Cls fun w' => Below w3.heap.size w3 w') := ⟨⟨w3, Below.refl _ _⟩⟩
      have q0 : ∀ p : Cls (fun w' => Below w3.heap.size w3 w'), p.w.cell? ⟨w.heap.size + 1, 0, none⟩ = some (.int .i64 (i : Int)) := fun p => (p.h.cell (World.block_lt_of_cell? _ _ p0)).trans p0
      have q1 : ∀ p : Cls (fun w' => Below w3.heap.size w3 w'), p.w.cell? ⟨w.heap.size + 1, 1, none⟩ = some (.slice pa pn pc) := fun p => (p.h.cell (World.block_lt_of_cell? _ _ p1)).trans p1
      have q2 : ∀ p : Cls (fun w' => Below w3.heap.size w3 w'), p.w.cell? ⟨w.heap.size, 36, none⟩ = some (.slice (some ⟨b, o', none⟩) m c) := fun p => (p.h.cell (World.block_lt_of_cell? _ _ c36)).trans c36
      have HPQ := hid (fun (p : Cls (fun w' => Below w3.heap.size w3 w')) => HPD.out p.w (HB3.out.trans (p.h.mono HB3.out.size)))
      have HRQ := hid (fun (p : Cls (fun w' => Below w3.heap.size w3 w')) => range_below HRG.out (HB3.out.trans (p.h.mono HB3.out.size)))
      have e1 := fun wx => HEQ.out wx
      have hi0 : (0 : Int) ≤ (i : Int) := by omega
      go_upto_region 9 with fail
      refine wp_region_class_lit (G := fun w' => Below w3.heap.size w3 w') (by kernel_rfl) (by kernel_rfl) (bel_drewN (Below.refl _ _) 1) ?_
      iterate 10 (go_big_quiet_step ((go_at_call 86; exact Calls.cls (HPQ.out _))))
      refine wpQuiet_load_cls (by rfl) 23 (.tmp 45) (by rfl) b (o' + i * 32) (by rfl) (u8s Z) _ HRQ.out Tryz.underlying23 rfl HIFZ.out ?_
      rintro _ rfl
      try simp only [Act.put, List.setIfInBounds_toArray, List.set_cons_zero, List.set_cons_succ]
      repeat (go_big_quiet_step ((go_at_call 86; exact Calls.cls (HPQ.out _))))
      refine wpQuiet_nil ?_
      rintro _ ⟨p, rfl⟩
      have HBF := hid (HB3.out.trans (p.h.mono HB3.out.size))
      go_wp2
      go_ret
      exact ⟨rfl, HBF.out⟩

set_option maxRecDepth 100000 in
set_option maxHeartbeats 4000000 in
theorem rchp_any (w : World) (V : Rnds w) (k n t s : Int) (od : List Nat) (a : Option Addr) (m c : Nat) (D : List (List Nat)) (ho : od.length = 32) (hD : Dgs w a m c D) (x : Int) (pa : Option Addr) (pn pc : Nat) (pl : List Nat) (hp : Bs w (.slice pa pn pc) pl) (hpc : pn ≤ pc) (hpn : pa = none → pc = 0) (hsz : pn ≤ 800000000) :
    Calls Tryz.prog 78 #[.agg (mcells k n t s od (.slice a m c)).toArray, .agg #[.int .i64 x, .slice pa pn pc]] w fun e w' => e = .returned (.int .i64 (cpE k n t s m D x pl)) ∧ Below w.heap.size w w' := by
  obtain ⟨w2, hw2⟩ : ∃ y, y = (w.alloc (.cells (mcells k n t s od (.slice a m c)).toArray 62)).alloc (.cells #[.int .i64 x, .slice pa pn pc] 68) := ⟨_, rfl⟩
  have hs1 : (w.alloc (.cells (mcells k n t s od (.slice a m c)).toArray 62)).heap.size = w.heap.size + 1 := by simp
  have hb2 : Below w.heap.size w w2 := by rw [hw2]; exact ((Below.refl _ _).alloc (Nat.le_refl _) _).alloc (by simp) _
  have hM : ManAt w2 w.heap.size k n t s od (.slice a m c) := by
    rw [hw2]
    exact (heap_alloc_old _ _ (by simp)).trans (heap_new _ _)
  have hQ : w2.heap[w.heap.size + 1]? = some (.cells #[.int .i64 x, .slice pa pn pc] 68 (0, 0)) := by rw [hw2, ← hs1]; exact heap_new _ _
  have HB := hid hb2
  have HRA := hid (range_of_heapI hM)
  have HIF := hid (show (Tryz.prog.info? 62).map (·.size) = some (mcells k n t s od (.slice a m c)).length from by rw [mcells_length _ _ _ _ _ _ ho]; kernel_rfl)
  have HE := hid (fun wx => valid_any k n t s od a m c ho wx)
  have HC := hid (fun (wx : World) (b : Below w2.heap.size w2 wx) => (show wx.cell? ⟨w.heap.size, 0, none⟩ = some (.int .i64 k) ∧ wx.cell? ⟨w.heap.size, 2, none⟩ = some (.int .i64 t) ∧ wx.cell? ⟨w.heap.size, 3, none⟩ = some (.int .i64 s) ∧ wx.cell? ⟨w.heap.size, 36, none⟩ = some (.slice a m c) ∧ wx.cell? ⟨w.heap.size + 1, 0, none⟩ = some (.int .i64 x) ∧ wx.cell? ⟨w.heap.size + 1, 1, none⟩ = some (.slice pa pn pc) from by
    have h0 : ManAt wx w.heap.size k n t s od (.slice a m c) := (b.block _ (lt_of_heap hM)).trans hM
    have h1 := h0.c ho
    have h2 := (b.block _ (lt_of_heap hQ)).trans hQ
    exact ⟨h1.1, h1.2.2.1, h1.2.2.2.1, h1.2.2.2.2, by rw [cell_of_heap h2]; rfl, by rw [cell_of_heap h2]; rfl⟩))
  have HDD := hid hD
  have HPP := hid hp
  have HVV := hid V
  clear hs1 hb2 hM hQ ho hD hp V
  cases hv : manB k n t s m with
  | false =>
    as_aux_lemma =>
      have HR := hid (show cpE k n t s m D x pl = 2 from by unfold cpE; rw [hv]; rfl)
      have hme : manB k n t s m = false := by exact hv
      rw [hme] at HE
      clear hv hme
      go_enter Tryz.func78, Tryz.ntmps78
      go_upto_region 1 with fail
      change Code.wp _ _ _ _ ((w.alloc (.cells (mcells k n t s od (.slice a m c)).toArray 62)).alloc (.cells #[.int .i64 x, .slice pa pn pc] 68))
      rw [← hw2]
      clear hw2
      go_wp2_with (refine wpList_load_mid (by rfl) 62 (.tmp 2) (by rfl) w.heap.size 0 (by rfl) (mcells k n t s od (.slice a m c)) _ HRA.out Tryz.underlying62 rfl HIF.out ?_)
      refine (HE.out w2).mono ?_
      rintro e w3 ⟨rfl, hb3⟩
      obtain ⟨c0, c2, c3, c36, p0, p1⟩ := HC.out w3 hb3
      have HB3 := hid (HB.out.trans (hb3.mono HB.out.size))
      go_wp2
      go_ret
      exact ⟨by rw [HR.out]; all_goals rfl, HB3.out⟩
  | true =>
    have hnum : 1 ≤ k ∧ k ≤ n ∧ n ≤ t ∧ t ≤ 255 ∧ 0 ≤ s ∧ s ≤ 8192 ∧ (m : Int) = t := by
      have hok := hv
      unfold manB vnB vcB at hok
      simp only [Bool.and_eq_true, decide_eq_true_eq] at hok
      omega
    have hme : manB k n t s m = true := by exact hv
    rw [hme] at HE
    have HU := hid (show cpE k n t s m D x pl = (if x < 0 ∨ t ≤ x then 2 else if pl.length ≠ plen k.toNat s.toNat then 10 else if dig shaRound shaStart ([hi8 x, lo8 x] ++ pl) ≠ D.getD x.toNat [] then 20 else 0) from by unfold cpE; rw [if_pos hv])
    clear hme hv
    by_cases hx0 : x < 0
    · as_aux_lemma =>
      have HR := hid (show cpE k n t s m D x pl = 2 from by rw [HU.out, if_pos (.inl hx0)])
      clear hnum
      go_enter Tryz.func78, Tryz.ntmps78
      go_upto_region 1 with fail
      change Code.wp _ _ _ _ ((w.alloc (.cells (mcells k n t s od (.slice a m c)).toArray 62)).alloc (.cells #[.int .i64 x, .slice pa pn pc] 68))
      rw [← hw2]
      clear hw2
      go_wp2_with (refine wpList_load_mid (by rfl) 62 (.tmp 2) (by rfl) w.heap.size 0 (by rfl) (mcells k n t s od (.slice a m c)) _ HRA.out Tryz.underlying62 rfl HIF.out ?_)
      refine (HE.out w2).mono ?_
      rintro e w3 ⟨rfl, hb3⟩
      obtain ⟨c0, c2, c3, c36, p0, p1⟩ := HC.out w3 hb3
      have HB3 := hid (HB.out.trans (hb3.mono HB.out.size))
      go_wp2
      go_ret
      exact ⟨by rw [HR.out]; all_goals rfl, HB3.out⟩
    by_cases hxt : t ≤ x
    · as_aux_lemma =>
      have HR := hid (show cpE k n t s m D x pl = 2 from by rw [HU.out, if_pos (.inr hxt)])
      clear hnum
      go_enter Tryz.func78, Tryz.ntmps78
      go_upto_region 1 with fail
      change Code.wp _ _ _ _ ((w.alloc (.cells (mcells k n t s od (.slice a m c)).toArray 62)).alloc (.cells #[.int .i64 x, .slice pa pn pc] 68))
      rw [← hw2]
      clear hw2
      go_wp2_with (refine wpList_load_mid (by rfl) 62 (.tmp 2) (by rfl) w.heap.size 0 (by rfl) (mcells k n t s od (.slice a m c)) _ HRA.out Tryz.underlying62 rfl HIF.out ?_)
      refine (HE.out w2).mono ?_
      rintro e w3 ⟨rfl, hb3⟩
      obtain ⟨c0, c2, c3, c36, p0, p1⟩ := HC.out w3 hb3
      have HB3 := hid (HB.out.trans (hb3.mono HB.out.size))
      go_wp2
      go_ret
      exact ⟨by rw [HR.out]; all_goals rfl, HB3.out⟩
    have hor : ¬ (x < 0 ∨ t ≤ x) := by omega
    have HSZ := hid (fun wx => length_ok k.toNat s.toNat (by omega) (by omega) (by omega) wx)
    rw [show ((k.toNat : Nat) : Int) = k from by omega, show ((s.toNat : Nat) : Int) = s from by omega] at HSZ
    have HPL := hid HPP.out.len
    by_cases hln : pl.length ≠ plen k.toNat s.toNat
    · as_aux_lemma =>
      have HR := hid (show cpE k n t s m D x pl = 10 from by rw [HU.out, if_neg hor, if_pos hln])
      have nq : ((pn : Int) != ((plen k.toNat s.toNat : Nat) : Int)) = true := by have := HPL.out; rw [bne_iff_ne]; omega
      clear hnum hor hln
      go_enter Tryz.func78, Tryz.ntmps78
      go_upto_region 1 with fail
      change Code.wp _ _ _ _ ((w.alloc (.cells (mcells k n t s od (.slice a m c)).toArray 62)).alloc (.cells #[.int .i64 x, .slice pa pn pc] 68))
      rw [← hw2]
      clear hw2
      go_wp2_with (refine wpList_load_mid (by rfl) 62 (.tmp 2) (by rfl) w.heap.size 0 (by rfl) (mcells k n t s od (.slice a m c)) _ HRA.out Tryz.underlying62 rfl HIF.out ?_)
      refine (HE.out w2).mono ?_
      rintro e w3 ⟨rfl, hb3⟩
      obtain ⟨c0, c2, c3, c36, p0, p1⟩ := HC.out w3 hb3
      have HB3 := hid (HB.out.trans (hb3.mono HB.out.size))
      clear hb3
      go_wp2_with fail
      refine (HSZ.out w3).mono ?_
      rintro e w4 ⟨rfl, rfl⟩
      go_wp2
      go_ret
      exact ⟨by rw [HR.out]; all_goals rfl, HB3.out⟩
    obtain ⟨i, hi⟩ : ∃ i : Nat, x = (i : Int) := ⟨x.toNat, by omega⟩
    have him : i < D.length := by have := HDD.out.len; omega
    obtain ⟨b, o', ha, hrg⟩ : ∃ b o', a = some ⟨b, o', none⟩ ∧ ∀ j, j < D.length → w.rangeAt b (o' + j * 32) (u8s (D.getD j [])) := by
      obtain ⟨a', c', h1, h2, h3⟩ := HDD.out.at_
      obtain ⟨b, o', e, h4⟩ := h3 (fun h => by rw [h] at him; simp at him)
      simp only [Value.slice.injEq] at h1
      exact ⟨b, o', h1.1.trans e, h4⟩
    have nq : ((pn : Int) != ((plen k.toNat s.toNat : Nat) : Int)) = false := by have := HPL.out; rw [bne_eq_false_iff_eq]; omega
    have hl32 : (D.getD i []).length = 32 := by
      rw [List.getD_eq_getElem?_getD, List.getElem?_eq_getElem him]
      exact HDD.out.l32 _ (List.getElem_mem _)
    have HRG := hid (hrg i him)
    obtain ⟨Y, hY⟩ : ∃ Y, Y = dig shaRound shaStart ([hi8 x, lo8 x] ++ pl) := ⟨_, rfl⟩
    have hY32 : Y.length = 32 := by rw [hY]; exact dig_length _ _ _
    obtain ⟨Z, hZ⟩ : ∃ Z, Z = D.getD i [] := ⟨_, rfl⟩
    rw [← hZ] at HRG hl32
    have HEQ := hid (fun wx => eql_any Y Z hY32 hl32 wx)
    have HIFZ := hid (show (Tryz.prog.info? 23).map (·.size) = some (u8s Z).length from by simp only [u8s, List.length_map, hl32]; kernel_rfl)
    have HFIN := hid (show cpE k n t s m D x pl = if Y ≠ Z then 20 else 0 from by rw [HU.out, if_neg hor, if_neg hln, ← hY, hZ, hi]; rfl)
    have HPD := hid (fun (wx : World) (b : Below w.heap.size w wx) => refd_all x pa pn pc pl wx (HVV.out.below b) (HPP.out.below b) hpc hpn hsz)
    rw [← hY] at HPD
    have hmi : (i : Int) < (m : Int) := by have := HDD.out.len; omega
    have hxt2 : ¬ t ≤ (i : Int) := by omega
    have hx02 : ¬ (i : Int) < 0 := by omega
    subst hi
    subst ha
    clear hnum hor hln hxt hx0 HU hrg him hY hZ hY32 hl32
    have hfin : ∀ (q : Bool), q = decide (Y = Z) → (if Y ≠ Z then (20 : Int) else 0) = if q then 0 else 20 := by
      rintro q rfl
      by_cases h : Y = Z
      · rw [if_neg (by simpa using h), decide_eq_true h]; rfl
      · rw [if_pos h, decide_eq_false h]; rfl
    generalize hq : decide (Y = Z) = q at *
    have HFN := hid (HFIN.out.trans (hfin q rfl))
    clear hfin HFIN hq
    obtain ⟨x, hx⟩ : ∃ x : Int, x = (i : Int) := ⟨_, rfl⟩
    cases q
    all_goals as_aux_lemma =>
      rw [HFN.out]
      rw [hx] at *
      clear hx
      go_enter Tryz.func78, Tryz.ntmps78
      go_upto_region 1 with fail
      change Code.wp _ _ _ _ ((w.alloc (.cells (mcells k n t s od (.slice (some ⟨b, o', none⟩) m c)).toArray 62)).alloc (.cells #[.int .i64 (i : Int), .slice pa pn pc] 68))
      rw [← hw2]
      clear hw2
      go_wp2_with (refine wpList_load_mid (by rfl) 62 (.tmp 2) (by rfl) w.heap.size 0 (by rfl) (mcells k n t s od (.slice (some ⟨b, o', none⟩) m c)) _ HRA.out Tryz.underlying62 rfl HIF.out ?_)
      refine (HE.out w2).mono ?_
      rintro e w3 ⟨rfl, hb3⟩
      obtain ⟨c0, c2, c3, c36, p0, p1⟩ := HC.out w3 hb3
      have HB3 := hid (HB.out.trans (hb3.mono HB.out.size))
      clear hb3
      go_wp2_with fail
      refine (HSZ.out w3).mono ?_
      rintro e w4 ⟨rfl, rfl⟩

      have hne : Nonempty (Cls fun w' => Below w3.heap.size w3 w') := ⟨⟨w3, Below.refl _ _⟩⟩
      have q0 : ∀ p : Cls (fun w' => Below w3.heap.size w3 w'), p.w.cell? ⟨w.heap.size + 1, 0, none⟩ = some (.int .i64 (i : Int)) := fun p => (p.h.cell (World.block_lt_of_cell? _ _ p0)).trans p0
      have q1 : ∀ p : Cls (fun w' => Below w3.heap.size w3 w'), p.w.cell? ⟨w.heap.size + 1, 1, none⟩ = some (.slice pa pn pc) := fun p => (p.h.cell (World.block_lt_of_cell? _ _ p1)).trans p1
      have q2 : ∀ p : Cls (fun w' => Below w3.heap.size w3 w'), p.w.cell? ⟨w.heap.size, 36, none⟩ = some (.slice (some ⟨b, o', none⟩) m c) := fun p => (p.h.cell (World.block_lt_of_cell? _ _ c36)).trans c36
      have HPQ := hid (fun (p : Cls (fun w' => Below w3.heap.size w3 w')) => HPD.out p.w (HB3.out.trans (p.h.mono HB3.out.size)))
      have HRQ := hid (fun (p : Cls (fun w' => Below w3.heap.size w3 w')) => range_below HRG.out (HB3.out.trans (p.h.mono HB3.out.size)))
      have e1 := fun wx => HEQ.out wx
      have hi0 : (0 : Int) ≤ (i : Int) := by omega
      go_upto_region 6 with fail
      refine wp_region_class_lit (G := fun w' => Below w3.heap.size w3 w') (by kernel_rfl) (by kernel_rfl) (bel_drewN (Below.refl _ _) 1) ?_
      iterate 10 (go_big_quiet_step ((go_at_call 106; exact Calls.cls (HPQ.out _))))
      refine wpQuiet_load_cls (by rfl) 23 (.tmp 44) (by rfl) b (o' + i * 32) (by rfl) (u8s Z) _ HRQ.out Tryz.underlying23 rfl HIFZ.out ?_
      rintro _ rfl
      try simp only [Act.put, List.setIfInBounds_toArray, List.set_cons_zero, List.set_cons_succ]
      repeat (go_big_quiet_step ((go_at_call 106; exact Calls.cls (HPQ.out _))))
      refine wpQuiet_nil ?_
      rintro _ ⟨p, rfl⟩
      have HBF := hid (HB3.out.trans (p.h.mono HB3.out.size))
      go_wp2
      go_ret
      exact ⟨rfl, HBF.out⟩

end Go.Proofs.YtjgiiciniplbnaaGreatDoor

namespace Go.Proofs.YtjgiiciniplbnaaGreatDoor
open Go Go.RowKit Go.Lib Go.Sort
set_option linter.unusedVariables false

/-- the cells of a Gather: the object, the manifest, the pieces -/
def gcl (obj : List Nat) (M : List Value) (pv : Value) : List Value := u8s obj ++ M ++ [pv]
def mz0 : List Value := mcells 0 0 0 0 (List.replicate 32 0) (.slice none 0 0)
theorem mz0_length : mz0.length = 37 := rfl
theorem gcl_length (obj : List Nat) (M : List Value) (pv : Value) (h : obj.length = 32) (hM : M.length = 37) : (gcl obj M pv).length = 70 := by simp [gcl, u8s, h, hM]
/-- block gb is a Gather -/
def GthAt (w : World) (gb : Nat) (obj : List Nat) (M : List Value) (pv : Value) : Prop := w.heap[gb]? = some (.cells (gcl obj M pv).toArray 158 (0, 0))
theorem GthAt.pv {w : World} {gb : Nat} {obj : List Nat} {M : List Value} {pv : Value} (h : GthAt w gb obj M pv) (ho : obj.length = 32) (hM : M.length = 37) : w.cell? ⟨gb, 69, none⟩ = some pv := by
  rw [cell_of_heap h, List.getElem?_toArray]
  unfold gcl
  rw [List.getElem?_append_right (by simp [u8s, ho, hM])]
  simp [u8s, ho, hM]
theorem GthAt.man {w : World} {gb : Nat} {obj : List Nat} {M : List Value} {pv : Value} (h : GthAt w gb obj M pv) (ho : obj.length = 32) (hM : M.length = 37) : w.rangeAt gb 32 M := fun j v hj => by
  have hl : j < 37 := by have := (List.getElem?_eq_some_iff.1 hj).1; omega
  rw [cell_of_heap h, List.getElem?_toArray]
  unfold gcl
  rw [List.append_assoc, List.getElem?_append_right (by simp [u8s, ho]), List.getElem?_append_left (by simp [u8s, ho]; omega)]
  simpa [u8s, ho] using hj
theorem GthAt.obj {w : World} {gb : Nat} {obj : List Nat} {M : List Value} {pv : Value} (h : GthAt w gb obj M pv) : w.rangeAt gb 0 (u8s obj) := fun j v hj => by
  have hl := (List.getElem?_eq_some_iff.1 hj).1
  rw [Nat.zero_add, cell_of_heap h, List.getElem?_toArray]
  unfold gcl
  rw [List.append_assoc, List.getElem?_append_left hl]
  exact hj
theorem GthAt.below {w w' : World} {gb : Nat} {obj : List Nat} {M : List Value} {pv : Value} (h : GthAt w gb obj M pv) (k : Below w.heap.size w w') : GthAt w' gb obj M pv := (k.block gb (lt_of_heap h)).trans h
theorem built_gth (s : List Nat) (h : s.length = 32) : Tryz.prog.built 158 [(0, .agg (u8s s).toArray)] = some (gcl s mz0 (.slice none 0 0)).toArray := by
  obtain ⟨x0, x1, x2, x3, x4, x5, x6, x7, x8, x9, x10, x11, x12, x13, x14, x15, x16, x17, x18, x19, x20, x21, x22, x23, x24, x25, x26, x27, x28, x29, x30, x31, rfl⟩ := list32 s h
  kernel_rfl
theorem map_oneO (x0 : Operand) (f : Operand → Value) : ((#[(0, x0)] : Array (Nat × Operand)).map fun (i, x) => (i, f x)).toList = [(0, f x0)] := by simp
theorem wpList_build1 {P : Program} {ops : Array Oper} {rest : List Oper} {o : Oper} {a : Act} {w : World} {Q : Exit → Act → World → Prop} (hgd : o.guard = none) (t : TypeId) (x0 : Operand) (ho : o.op = .build t #[(0, x0)]) {v0 : Value} (h0 : a.eval x0 = v0)
    {cells : Array Value} (hp : P.built t [(0, v0)] = some cells) (h : wpList P ops Q rest (a.put o.dst (.agg cells)) w) : wpList P ops Q (o :: rest) a w :=
  wpList_plain hgd fun K hK => by
    have hv := map_oneO x0 a.eval
    rw [h0] at hv
    rw [← hv] at hp
    have hr : (execOp a.eval o).run P w = .ok (.value (.agg cells)) w := by
      unfold execOp
      simp only [ho]
      have h := run_build (P := P) w t _ cells hp
      simp only [Sem.run_bind, h, Result.andThen_ok, Sem.run_pure]
    unfold Oper.wp
    rw [hr]
    exact hK _ _ h
set_option maxRecDepth 100000 in
set_option maxHeartbeats 4000000 in
theorem NewGather_any (obj : List Nat) (ho : obj.length = 32) (w : World) : Calls Tryz.prog 42 #[.agg (u8s obj).toArray] w fun e w' => e = .returned (.pointer (some ⟨w.heap.size + 1, 0, none⟩)) ∧ GthAt w' (w.heap.size + 1) obj mz0 (.slice none 0 0) ∧ Below w.heap.size w w' := by
  obtain ⟨w1, hw1⟩ : ∃ y, y = w.alloc (.cells (u8s obj).toArray 23) := ⟨_, rfl⟩
  have HR0 := hid (show OwnD w1 w.heap.size obj from by rw [hw1]; exact heap_new _ _)
  have hb1 : Below w.heap.size w w1 := by rw [hw1]; exact (Below.refl _ _).alloc (Nat.le_refl _) _
  have HB1 := hid hb1
  have hs1 : w1.heap.size = w.heap.size + 1 := by rw [hw1]; simp
  have HS1 := hid hs1
  have HRG := hid (range_own HR0.out)
  have HIF := hid (show (Tryz.prog.info? 23).map (·.size) = some (u8s obj).length from by rw [show (u8s obj).length = 32 from by simp [u8s, ho]]; kernel_rfl)
  have HBG := hid (built_gth obj ho)
  obtain ⟨GC, hGC⟩ : ∃ y, y = (gcl obj mz0 (.slice none 0 0)).toArray := ⟨_, rfl⟩
  rw [← hGC] at HBG
  have HGA := hid (show GthAt (w1.alloc (.cells GC 158)) (w.heap.size + 1) obj mz0 (.slice none 0 0) from by
    have h := heap_new w1 (.cells GC 158)
    rw [hs1] at h
    unfold GthAt
    rw [h, hGC])
  have HW1 := hid hw1
  clear hw1 hb1 hs1 hGC
  go_enter Tryz.func42, Tryz.ntmps42
  go_upto_region 1 with fail
  rw [← HW1.out]
  go_wp2_with (first
    | (refine wpList_load_mid (by rfl) 23 (.tmp 1) (by rfl) w.heap.size 0 (by rfl) (u8s obj) _ HRG.out Tryz.underlying23 rfl HIF.out ?_)
    | (refine wpList_build1 (by rfl) 158 (.tmp 3) (by rfl) (by rfl) HBG.out ?_))
  go_ret
  exact ⟨by rw [HS1.out]; rfl, HGA.out, HB1.out.alloc HB1.out.size _⟩
end Go.Proofs.YtjgiiciniplbnaaGreatDoor

namespace Go.Proofs.YtjgiiciniplbnaaGreatDoor
open Go Go.RowKit Go.Lib Go.Sort
set_option linter.unusedVariables false

theorem GthAt.k {w : World} {gb : Nat} {obj : List Nat} {k n t s : Int} {od : List Nat} {v pv : Value} (h : GthAt w gb obj (mcells k n t s od v) pv) (ho : obj.length = 32) (hM : (mcells k n t s od v).length = 37) : w.cell? ⟨gb, 32, none⟩ = some (.int .i64 k) := by
  have := h.man ho hM 0 (.int .i64 k) rfl
  simpa using this
set_option maxRecDepth 100000 in
set_option maxHeartbeats 4000000 in
theorem Ready_any (gb : Nat) (obj : List Nat) (ho : obj.length = 32) (k n t s : Int) (od : List Nat) (v : Value) (hM : (mcells k n t s od v).length = 37) (pa : Option Addr) (m c : Nat) (w : World) (hG : GthAt w gb obj (mcells k n t s od v) (.slice pa m c)) :
    Calls Tryz.prog 47 #[.pointer (some ⟨gb, 0, none⟩)] w fun e w' => e = .returned (.bool (decide (0 < m) && decide (k ≤ (m : Int)))) ∧ Below w.heap.size w w' := by
  have c1 := hG.pv ho hM
  have c2 := hG.k ho hM
  clear hG
  by_cases h1 : 0 < m
  · have h1' : (0 : Int) < (m : Int) := by omega
    by_cases h2 : k ≤ (m : Int)
    · have e : (decide (0 < m) && decide (k ≤ (m : Int))) = true := by simp [h1, h2]
      rw [e]
      clear e
      go_enter Tryz.func47, Tryz.ntmps47
      go_upto_region 1 with fail
      go_quiet (fail)
      go_wp2
      go_ret
      exact ⟨rfl, bel_drewN (Below.refl _ _) _⟩
    · have e : (decide (0 < m) && decide (k ≤ (m : Int))) = false := by simp [h2]
      rw [e]
      clear e
      go_enter Tryz.func47, Tryz.ntmps47
      go_upto_region 1 with fail
      go_quiet (fail)
      go_wp2
      go_ret
      exact ⟨rfl, bel_drewN (Below.refl _ _) _⟩
  · have h1' : ¬ (0 : Int) < (m : Int) := by omega
    have e : (decide (0 < m) && decide (k ≤ (m : Int))) = false := by simp [h1]
    rw [e]
    clear e
    go_enter Tryz.func47, Tryz.ntmps47
    go_upto_region 1 with fail
    go_quiet (fail)
    go_wp2
    go_ret
    exact ⟨rfl, bel_drewN (Below.refl _ _) _⟩
/-- numbers as cells -/
def i64z (l : List Int) : List Value := l.map fun n => .int .i64 n
def OwnZ (w : World) (b : Nat) (l : List Int) : Prop := w.heap[b]? = some (.cells (i64z l).toArray 3 (0, 0))
theorem OwnZ.cell {w : World} {b : Nat} {l : List Int} (h : OwnZ w b l) (i : Nat) (hi : i < l.length) : w.cell? ⟨b, i, none⟩ = some (.int .i64 (l.getD i 0)) := by
  rw [cell_of_heap h, List.getElem?_toArray]
  simp [i64z, hi]
theorem OwnZ.free {w : World} {b : Nat} {l : List Int} (h : OwnZ w b l) (i : Nat) : w.frozen? ⟨b, i, none⟩ = false := free_of_heap h i
theorem OwnZ.set {w : World} {b : Nat} {l : List Int} (h : OwnZ w b l) (i : Nat) (n : Int) : OwnZ (w.setCell ⟨b, i, none⟩ (.int .i64 n)) b (l.set i n) := by
  have := heap_set h i (.int .i64 n)
  unfold OwnZ
  rw [this]
  simp [i64z, List.map_set]
theorem is_of_ownZ {w : World} {b : Nat} {l : List Int} (h : OwnZ w b l) (hs : ∀ n ∈ l, (Lit.int .i64 n).wf = true) : Is w (.slice (some ⟨b, 0, none⟩) l.length l.length) l :=
  ⟨_, _, rfl, hs, fun _ => ⟨b, 0, rfl, fun i hi => by rw [Nat.zero_add]; exact h.cell i hi⟩⟩
/-- the first k numbers of f, then zeroes -/
def zTo (f : Nat → Int) (n k : Nat) : List Int := (List.range n).map fun i => if i < k then f i else 0
theorem zTo_length (f : Nat → Int) (n k : Nat) : (zTo f n k).length = n := by simp [zTo]
theorem zTo_zero (f : Nat → Int) (n : Nat) : i64z (zTo f n 0) = i64s (List.replicate n 0) := by
  apply List.ext_getElem?
  intro i
  unfold i64z zTo i64s
  by_cases hi : i < n
  · simp [hi]
  · rw [List.getElem?_eq_none (by simp; omega), List.getElem?_eq_none (by simp; omega)]
theorem zTo_set (f : Nat → Int) (n k : Nat) : (zTo f n k).set k (f k) = zTo f n (k + 1) := by
  apply List.ext_getElem?
  intro i
  rw [List.getElem?_set, zTo_length]
  by_cases hi : i < n
  · unfold zTo
    rw [List.getElem?_map, List.getElem?_map, List.getElem?_range hi]
    simp only [Option.map_some]
    by_cases h : k = i
    · subst h; simp [hi]
    · rw [if_neg h]
      by_cases h2 : i < k
      · rw [if_pos h2, if_pos (by omega)]
      · rw [if_neg h2, if_neg (by omega)]
  · rw [List.getElem?_eq_none (by rw [zTo_length]; omega), List.getElem?_eq_none (by rw [zTo_length]; omega)]
    split <;> simp_all
theorem zTo_all (f : Nat → Int) (n : Nat) : zTo f n n = (List.range n).map f := by
  unfold zTo
  exact List.map_congr_left fun i hi => by rw [if_pos (List.mem_range.1 hi)]
set_option maxRecDepth 100000 in
set_option maxHeartbeats 8000000 in
theorem Indices_any (gb : Nat) (obj : List Nat) (ho : obj.length = 32) (M : List Value) (hM : M.length = 37) (pa : Option Addr) (m c : Nat) (hm : m ≤ 100000) (ix : Nat → Int) (sl : Nat → Value) (w : World) (hG : GthAt w gb obj M (.slice pa m c))
    (hP : ∀ i, i < m → ∃ g o, pa = some ⟨g, o, none⟩ ∧ w.cell? ⟨g, o + i * 2, none⟩ = some (.int .i64 (ix i)) ∧ w.cell? ⟨g, o + i * 2 + 1, none⟩ = some (sl i) ∧ (sl i).oneCell' = true) :
    Calls Tryz.prog 50 #[.pointer (some ⟨gb, 0, none⟩)] w fun e w' => ∃ ib, e = .returned (.slice (some ⟨ib, 0, none⟩) m m) ∧ OwnZ w' ib ((List.range m).map ix) ∧ w.heap.size ≤ ib ∧ Below w.heap.size w w' := by
  have c1 := hG.pv ho hM
  have HG := hid hG
  have HP := hid hP
  have hmk := mk_i64 m (by omega) w
  obtain ⟨w1, hw1⟩ : ∃ y, y = w.alloc (.cells (i64s (List.replicate m 0)).toArray 3) := ⟨_, rfl⟩
  obtain ⟨ib, hib⟩ : ∃ y, y = w.heap.size := ⟨_, rfl⟩
  have hb1 : Below w.heap.size w w1 := by rw [hw1]; exact (Below.refl _ _).alloc (Nat.le_refl _) _
  have HO0 := hid (show OwnZ w1 ib (zTo ix m 0) from by unfold OwnZ; rw [zTo_zero, hw1, hib]; exact heap_new _ _)
  have c2 : w1.cell? ⟨gb, 69, none⟩ = some (.slice pa m c) := (hG.below hb1).pv ho hM
  rw [← hw1, ← hib] at hmk
  have HB1 := hid hb1
  have HIB := hid hib
  clear hG hP hw1 hib hb1
  go_enter Tryz.func50, Tryz.ntmps50
  go_wp2_with fail
  clear c1 c2 hmk
  go_loopw [19] (fun iv wx => ∃ i : Nat, i ≤ m ∧ iv = .int .i64 i ∧ Hid (OwnZ wx ib (zTo ix m i)) ∧ Hid (Kept ib w1 wx)) (fun iv _ => m - (intOf iv).toNat)
  case atStart => exact ⟨0, by omega, rfl, HO0, hid (Kept.refl _ _)⟩
  case round =>
    obtain ⟨i, hi, rfl, HOI, HK⟩ := hrel
    by_cases him : i < m
    · as_aux_lemma =>
      have him' : (i : Int) < (m : Int) := by omega
      obtain ⟨g, o, rfl, p0, p1, p2⟩ := HP.out i him
      have hgw := World.block_lt_of_cell? _ _ p0
      simp only at hgw
      have hgi : g ≠ ib := by have := HIB.out; omega
      have q0 : wr.cell? ⟨g, o + i * 2, none⟩ = some (.int .i64 (ix i)) := (World.cell?_of_block (a := ⟨g, o + i * 2, none⟩) ((HK.out.block g (Nat.lt_of_lt_of_le hgw HB1.out.size) hgi).trans (HB1.out.block g hgw))).trans p0
      have q1 : wr.cell? ⟨g, o + i * 2 + 1, none⟩ = some (sl i) := (World.cell?_of_block (a := ⟨g, o + i * 2 + 1, none⟩) ((HK.out.block g (Nat.lt_of_lt_of_le hgw HB1.out.size) hgi).trans (HB1.out.block g hgw))).trans p1
      have HST := hid (zTo_set ix m i)
      generalize ix i = x at *
      generalize sl i = y at *
      have hpw : ib < wr.heap.size := lt_of_heap HOI.out
      have HON := hid (show (#[.int .i64 x, y] : Array Value).all (·.oneCell') = true from by simp [p2]; rfl)
      have HIP := hid (show (Tryz.prog.info? 68).map (·.size) = some (#[.int .i64 x, y] : Array Value).size from by kernel_rfl)
      have HSZ := hid (show (2 : Nat) = (#[.int .i64 x, y] : Array Value).size from rfl)
      clear p0 p1 p2
      go_wp2_with (refine wpList_store_row (by rfl) 68 (.tmp 5) (.tmp 23) (by rfl) wr.heap.size _ #[.int .i64 x, y] 68 (by rfl) (by rfl) (heap_new _ _) HIP.out HSZ.out HON.out ?_
                   intro w8 hw8 hk8
                   have d0 : w8.cell? ⟨wr.heap.size, 0, none⟩ = some (.int .i64 x) := by rw [cell_of_heap hw8]; rfl
                   have HOI8 := hid (show OwnZ w8 ib _ from (hk8.block ib (by simp; omega) (by omega)).trans (heap_alloc HOI.out _))
                   have d1 := HOI8.out.cell i (by rw [zTo_length]; exact him)
                   have f1 := HOI8.out.free i
                   have HK8 := hid (show Kept ib w1 w8 from (HK.out.alloc _).fresh hk8 HK.out.size))
      have hset := HOI8.out.set i x
      rw [HST.out] at hset
      exact ⟨⟨i + 1, by omega, by go_num, hid hset, hid (HK8.out.setCell rfl _)⟩, by simp [intOf]; omega⟩
    · obtain rfl : i = m := by omega
      have him' : ¬ (i : Int) < (i : Int) := by omega
      go_wp2
      go_ret
      have h5 := HOI.out
      rw [zTo_all] at h5
      exact ⟨ib, rfl, h5, by have := HIB.out; omega, HB1.out.trans (HK.out.below HB1.out.size (by have := HIB.out; omega))⟩
end Go.Proofs.YtjgiiciniplbnaaGreatDoor

namespace Go.Proofs.YtjgiiciniplbnaaGreatDoor
open Go Go.RowKit Go.Lib Go.Sort
set_option linter.unusedVariables false

/-- what check answers -/
def gchk (ie : Int) (same : Bool) (ce : Int) (has rdy : Bool) : Int := if ie ≠ 0 then ie else if same = false then 20 else if ce ≠ 0 then ce else if has then 7 else if rdy then 8 else 0
set_option maxRecDepth 100000 in
set_option maxHeartbeats 8000000 in
theorem check_any (gb : Nat) (obj : List Nat) (ho : obj.length = 32) (k n t s : Int) (od : List Nat) (v : Value) (hM : (mcells k n t s od v).length = 37) (pa : Option Addr) (m c : Nat) (hm : m ≤ 100000) (ix : Nat → Int) (hix : ∀ i, (Lit.int .i64 (ix i)).wf = true) (sl : Nat → Value) (w : World)
    (hG : GthAt w gb obj (mcells k n t s od v) (.slice pa m c))
    (hP : ∀ i, i < m → ∃ g o, pa = some ⟨g, o, none⟩ ∧ w.cell? ⟨g, o + i * 2, none⟩ = some (.int .i64 (ix i)) ∧ w.cell? ⟨g, o + i * 2 + 1, none⟩ = some (sl i) ∧ (sl i).oneCell' = true)
    (MC : List Value) (hMC : MC.length = 37) (x : Int) (qa : Option Addr) (qn qc : Nat) (idv : List Nat) (hidl : idv.length = 32) (ie ce : Int)
    (HI : ∀ wx, Below w.heap.size w wx → Calls Tryz.prog 59 #[.agg MC.toArray] wx fun e w' => e = .returned (.tuple #[.agg (u8s idv).toArray, .int .i64 ie]) ∧ Below wx.heap.size wx w')
    (HC : ∀ wx, Below w.heap.size w wx → Calls Tryz.prog 61 #[.agg MC.toArray, .agg #[.int .i64 x, .slice qa qn qc]] wx fun e w' => e = .returned (.int .i64 ce) ∧ Below wx.heap.size wx w') :
    Calls Tryz.prog 74 #[.pointer (some ⟨gb, 0, none⟩), .agg MC.toArray, .agg #[.int .i64 x, .slice qa qn qc]] w fun e w' =>
      e = .returned (.int .i64 (gchk ie (decide (idv = obj)) ce (((List.range m).map ix).contains x) (decide (0 < m) && decide (k ≤ (m : Int))))) ∧ Below w.heap.size w w' := by
  obtain ⟨w0, hw0⟩ : ∃ y, y = (w.alloc (.cells MC.toArray 62)).alloc (.cells #[.int .i64 x, .slice qa qn qc] 68) := ⟨_, rfl⟩
  have hs1 : (w.alloc (.cells MC.toArray 62)).heap.size = w.heap.size + 1 := by simp
  have hb0 : Below w.heap.size w w0 := by rw [hw0]; exact ((Below.refl _ _).alloc (Nat.le_refl _) _).alloc (by simp) _
  have hMA : w0.heap[w.heap.size]? = some (.cells MC.toArray 62 (0, 0)) := by
    rw [hw0]
    exact (heap_alloc_old _ _ (by simp)).trans (heap_new _ _)
  have hPA : w0.heap[w.heap.size + 1]? = some (.cells #[.int .i64 x, .slice qa qn qc] 68 (0, 0)) := by rw [hw0, ← hs1]; exact heap_new _ _
  have HW0 := hid hw0
  have HB0 := hid hb0
  have HMA := hid hMA
  have HPA := hid hPA
  have HMR := hid (range_of_heap hMA)
  have HIM := hid (show (Tryz.prog.info? 62).map (·.size) = some MC.length from by rw [hMC]; kernel_rfl)
  have HID := hid HI
  have HCP := hid HC
  have HGA := hid hG
  have HPP := hid hP
  have HO := hid ho
  have HMM := hid hM
  have HM5 := hid hm
  have HIX := hid hix
  have HIFD := hid (show (Tryz.prog.info? 23).map (·.size) = some (u8s idv).length from by rw [show (u8s idv).length = 32 from by simp [u8s, hidl]]; kernel_rfl)
  have HIFS := hid (show (Tryz.prog.info? 23).map (·.size) = some (u8s idv).toArray.size from by rw [show (u8s idv).toArray.size = 32 from by simp [u8s, hidl]]; kernel_rfl)
  have HIFO := hid (show (Tryz.prog.info? 23).map (·.size) = some (u8s obj).length from by rw [show (u8s obj).length = 32 from by simp [u8s, ho]]; kernel_rfl)
  have HONE := hid (show (u8s idv).toArray.all (·.oneCell') = true from all_oneCell_toArray (u8s_oneH _))
  have HOLD := hid (show ((u8s (List.replicate 32 0)).toArray : Array Value).size = (u8s idv).toArray.size from by simp [u8s, hidl])
  have HEQ := hid (fun wx => eql_any idv obj hidl ho wx)
  have hsm : ∀ q, q = decide (idv = obj) → True := fun _ _ => trivial
  generalize decide (idv = obj) = q at *
  clear hsm
  have HL := hid (show ((List.range m).map ix).length = m from by simp)
  have HLW := hid (show ∀ y ∈ (List.range m).map ix, (Lit.int .i64 y).wf = true from fun y hy => by
    obtain ⟨i, _, rfl⟩ := List.mem_map.1 hy
    exact hix i)
  have HIN := hid (fun (wx : World) (hg : GthAt wx gb obj (mcells k n t s od v) (.slice pa m c)) (b : Below w.heap.size w wx) => Indices_any gb obj ho (mcells k n t s od v) hM pa m c hm ix sl wx hg (fun i hi => by
    obtain ⟨g, o, h1, h2, h3, h4⟩ := HPP.out i hi
    exact ⟨g, o, h1, (b.cell (World.block_lt_of_cell? _ _ h2)).trans h2, (b.cell (World.block_lt_of_cell? _ _ h3)).trans h3, h4⟩))
  obtain ⟨L, hL⟩ : ∃ L, L = (List.range m).map ix := ⟨_, rfl⟩
  rw [← hL] at HL HLW HIN ⊢
  have HCO := hid (fun (ib : Nat) (wx : World) (h : OwnZ wx ib L) => contains_any (some ⟨ib, 0, none⟩) m m L x wx (by have := is_of_ownZ h HLW.out; rw [HL.out] at this; exact this) (by have := HM5.out; omega))
  have HRD := hid (fun (wx : World) (hg : GthAt wx gb obj (mcells k n t s od v) (.slice pa m c)) => Ready_any gb obj ho k n t s od v hM pa m c wx hg)
  generalize L.contains x = has at *
  generalize (decide (0 < m) && decide (k ≤ (m : Int))) = rdy at *
  clear hw0 hs1 hb0 hMA hPA HI HC hG hP ho hM hm hix hMC hidl hL HPP HL HLW HIX
  go_enter Tryz.func74, Tryz.ntmps74
  go_upto_region 1 with fail
  change Code.wp _ _ _ _ ((w.alloc (.cells MC.toArray 62)).alloc (.cells #[.int .i64 x, .slice qa qn qc] 68))
  rw [← HW0.out]
  clear HW0
  go_wp2_with (refine wpList_load_mid (by rfl) 62 (.tmp 4) (by rfl) w.heap.size 0 (by rfl) MC _ HMR.out Tryz.underlying62 rfl HIM.out ?_)
  refine (HID.out w0 HB0.out).mono ?_
  rintro e w1 ⟨rfl, hb1⟩
  have HB1 := hid hb1
  have HBA := hid (HB0.out.trans (hb1.mono HB0.out.size))
  clear hb1
  by_cases hie : ie = 0
  · subst hie
    go_wp2_with (refine wpList_store_row (by rfl) 23 (.tmp 7) (.tmp 13) (by rfl) w1.heap.size _ (u8s idv).toArray 23 (by rfl) (by rfl) (heap_new _ _) HIFS.out HOLD.out HONE.out ?_
                 intro w2 hd2 hk2
                 have HD2 := hid hd2
                 have HB2 := hid (show Below w1.heap.size w1 w2 from ((Below.refl _ _).alloc (Nat.le_refl _) _).trans (hk2.below (by simp) (Nat.le_refl _)))
                 clear hd2 hk2)
    have HB2a := hid (HBA.out.trans (HB2.out.mono HBA.out.size))
    have HRD2 := hid (range_own HD2.out)
    have HG2 := hid (HGA.out.below HB2a.out)
    have hlt := lt_of_heap HD2.out
    have HRDQ := hid (fun (p : Cls fun w' => Below w2.heap.size w2 w') => range_below HRD2.out p.h)
    have HROQ := hid (fun (p : Cls fun w' => Below w2.heap.size w2 w') => range_below (HG2.out.obj) p.h)
    have hne : Nonempty (Cls fun w' => Below w2.heap.size w2 w') := ⟨⟨w2, Below.refl _ _⟩⟩
    have e1 := fun wx => HEQ.out wx
    clear hlt
    cases q
    · as_aux_lemma =>
      go_upto_region 4 with fail
      refine wp_region_class_lit (G := fun w' => Below w2.heap.size w2 w') (by kernel_rfl) (by kernel_rfl) (bel_drewN (Below.refl _ _) 1) ?_
      refine wpQuiet_load_cls (by rfl) 23 (.tmp 7) (by rfl) w1.heap.size 0 (by rfl) (u8s idv) _ HRDQ.out Tryz.underlying23 rfl HIFD.out ?_
      rintro _ rfl
      try simp only [Act.put, List.setIfInBounds_toArray, List.set_cons_zero, List.set_cons_succ]
      iterate 3 (go_big_quiet_step (fail))
      refine wpQuiet_load_cls (by rfl) 23 (.tmp 21) (by rfl) gb 0 (by rfl) (u8s obj) _ HROQ.out Tryz.underlying23 rfl HIFO.out ?_
      rintro _ rfl
      try simp only [Act.put, List.setIfInBounds_toArray, List.set_cons_zero, List.set_cons_succ]
      repeat (go_big_quiet_step (fail))
      refine wpQuiet_nil ?_
      rintro w3 ⟨p3, hp3⟩
      have hb3 : Below w2.heap.size w2 w3 := by rw [hp3]; exact p3.h
      clear hp3 p3
      have hb3' := hid hb3
      go_wp2
      go_ret
      exact ⟨rfl, HB2a.out.trans (hb3.mono HB2a.out.size)⟩
    · as_aux_lemma =>
      go_upto_region 4 with fail
      refine wp_region_class_lit (G := fun w' => Below w2.heap.size w2 w') (by kernel_rfl) (by kernel_rfl) (bel_drewN (Below.refl _ _) 1) ?_
      refine wpQuiet_load_cls (by rfl) 23 (.tmp 7) (by rfl) w1.heap.size 0 (by rfl) (u8s idv) _ HRDQ.out Tryz.underlying23 rfl HIFD.out ?_
      rintro _ rfl
      try simp only [Act.put, List.setIfInBounds_toArray, List.set_cons_zero, List.set_cons_succ]
      iterate 3 (go_big_quiet_step (fail))
      refine wpQuiet_load_cls (by rfl) 23 (.tmp 21) (by rfl) gb 0 (by rfl) (u8s obj) _ HROQ.out Tryz.underlying23 rfl HIFO.out ?_
      rintro _ rfl
      try simp only [Act.put, List.setIfInBounds_toArray, List.set_cons_zero, List.set_cons_succ]
      repeat (go_big_quiet_step (fail))
      refine wpQuiet_nil ?_
      rintro w3 ⟨p3, hp3⟩
      have hb3 : Below w2.heap.size w2 w3 := by rw [hp3]; exact p3.h
      clear hp3 p3
      have hb3' := hid hb3
      have HB3 := hid (HB2a.out.trans (hb3.mono HB2a.out.size))
      clear hb3 e1 HRDQ HROQ hne
      have HB03 := hid (show Below w0.heap.size w0 w3 from HB1.out.trans ((HB2.out.trans (hb3'.out.mono HB2.out.size)).mono HB1.out.size))
      have HMR3 := hid (range_below HMR.out HB03.out)
      have hp3 := (HB03.out.block _ (lt_of_heap HPA.out)).trans HPA.out
      have p0 : w3.cell? ⟨w.heap.size + 1, 0, none⟩ = some (.int .i64 x) := by rw [cell_of_heap hp3]; rfl
      have p1 : w3.cell? ⟨w.heap.size + 1, 1, none⟩ = some (.slice qa qn qc) := by rw [cell_of_heap hp3]; rfl
      have HP3 := hid hp3
      clear hp3
      go_wp2_with (refine wpList_load_mid (by rfl) 62 (.tmp 4) (by rfl) w.heap.size 0 (by rfl) MC _ HMR3.out Tryz.underlying62 rfl HIM.out ?_)
      refine (HCP.out w3 HB3.out).mono ?_
      rintro e w4 ⟨rfl, hb4⟩
      have HB4 := hid (HB3.out.trans (hb4.mono HB3.out.size))
      have HP4 := hid ((hb4.block _ (lt_of_heap HP3.out)).trans HP3.out)
      clear hb4 p0 p1
      by_cases hce : ce = 0
      · subst hce
        have HG4 := hid (HGA.out.below HB4.out)
        have HKP := hid (show ∀ wx, Below w4.heap.size w4 wx → Below w4.heap.size w4 wx ∧ wx.cell? ⟨w.heap.size + 1, 0, none⟩ = some (.int .i64 x) from fun wx b => ⟨b, by rw [cell_of_heap ((b.block _ (lt_of_heap HP4.out)).trans HP4.out)]; rfl⟩)
        go_upto_region 9 with fail
        refine wp_region_held_drew (S := (fun wx => Below w4.heap.size w4 wx ∧ wx.cell? ⟨w.heap.size + 1, 0, none⟩ = some (.int .i64 x))) (by kernel_rfl) (HKP.out _ (bel_drewN (Below.refl _ _) 1)) (fun hHeld => ?_)
        refine wpAnyH_take (i := 0) (oi := { dst := some 30, op := Op.move (Operand.tmp 0), type := 58, pos := "gather.go:49", after := #[], guard := none }) (v := ?_) rfl (by kernel_rfl) (by kernel_rfl) (by kernel_rfl) (fun _ _ _ h => h) (Or.inl ⟨by rfl, ?hy⟩) hHeld ?_
        case hy => (intro w hSw; (try dsimp only at hSw); obtain ⟨_, _⟩ := hSw; go_simp; all_goals (with_reducible rfl))
        try simp only [Act.put, List.setIfInBounds_toArray, List.set_cons_zero, List.set_cons_succ]
        refine wpAnyH_take (i := 2) (oi := { dst := some 32, op := Op.fieldAddr 68 (Operand.tmp 5) 0, type := 0, pos := "gather.go:49", after := #[], guard := none }) (v := ?_) rfl (by kernel_rfl) (by kernel_rfl) (by kernel_rfl) (fun _ _ _ h => h) (Or.inl ⟨by rfl, ?hy⟩) hHeld ?_
        case hy => (intro w hSw; (try dsimp only at hSw); obtain ⟨_, _⟩ := hSw; go_simp; all_goals (with_reducible rfl))
        try simp only [Act.put, List.setIfInBounds_toArray, List.set_cons_zero, List.set_cons_succ]
        refine wpAnyH_take (i := 3) (oi := { dst := some 33, op := Op.load 3 (Operand.tmp 32), type := 3, pos := "gather.go:49", after := #[{ on := 2, ground := Ground.data }], guard := none }) (v := ?_) rfl (by kernel_rfl) (by kernel_rfl) (by kernel_rfl) (fun _ _ _ h => h) (Or.inl ⟨by rfl, ?hy⟩) hHeld ?_
        case hy => (intro w hSw; (try dsimp only at hSw); obtain ⟨_, _⟩ := hSw; go_simp; all_goals (with_reducible rfl))
        try simp only [Act.put, List.setIfInBounds_toArray, List.set_cons_zero, List.set_cons_succ]
        refine wpAnyH_ready (rs := [1]) (by kernel_rfl) (by simp) ?_
        refine AllReadyH.cons (o := { dst := some 31, op := Op.call { callee := Callee.value (Operand.func 50), args := #[Operand.tmp 30], argTypes := #[58] }, type := 27, pos := "gather.go:49", after := #[{ on := 0, ground := Ground.data }], guard := none }) rfl (fun K hK => ?_) AllReadyH.nil
        go_simp
        refine (HIN.out w4.drew (HG4.out.below (bel_drewN (Below.refl _ _) 1)) (HB4.out.trans ((bel_drewN (Below.refl _ _) 1).mono HB4.out.size))).mono ?_
        rintro e w5 ⟨ib, rfl, ho5, hle5, hb5⟩
        have HO5 := hid ho5
        have HB5 := hid ((bel_drewN (Below.refl w4.heap.size w4) 1).trans (hb5.mono (by simp)))
        clear ho5 hle5 hb5
        clear hHeld
        go_wp2_with fail
        refine hK.out _ _ (HKP.out _ HB5.out) (fun hHeld => ?_)
        clear hK K
        try simp only [Act.put, List.setIfInBounds_toArray, List.set_cons_zero, List.set_cons_succ]
        refine wpAnyH_ready (rs := [4]) (by kernel_rfl) (by simp) ?_
        refine AllReadyH.cons (o := { dst := some 34, op := Op.call { callee := Callee.value (Operand.func 68), args := #[Operand.tmp 31, Operand.tmp 33], argTypes := #[27, 3] }, type := 4, pos := "gather.go:49", after := #[{ on := 1, ground := Ground.data }, { on := 3, ground := Ground.data }, { on := 1, ground := Ground.chain }], guard := none }) rfl (fun K hK => ?_) AllReadyH.nil
        go_simp
        refine (HCO.out ib w5 HO5.out).mono ?_
        rintro e w6 ⟨rfl, rfl⟩
        clear hHeld
        go_wp2_with fail
        refine hK.out _ _ (HKP.out _ HB5.out) (fun hHeld => ?_)
        clear hK K
        try simp only [Act.put, List.setIfInBounds_toArray, List.set_cons_zero, List.set_cons_succ]
        refine wpAnyH_done (by kernel_rfl) ?_ _
        have HG5 := hid (HG4.out.below HB5.out)
        have HB45 := hid (HB4.out.trans (HB5.out.mono HB4.out.size))
        cases has
        · go_wp2_with fail
          refine (HRD.out w5 HG5.out).mono ?_
          rintro e w7 ⟨rfl, hb7⟩
          have HB7 := hid (HB45.out.trans (hb7.mono HB45.out.size))
          clear hb7
          cases rdy
          · go_wp2
            go_ret
            exact ⟨rfl, HB7.out⟩
          · go_wp2
            go_ret
            exact ⟨rfl, HB7.out⟩
        · go_wp2
          go_ret
          exact ⟨rfl, HB45.out⟩
      · have hce' : (ce != 0) = true := by simp [hce]
        go_wp2
        go_ret
        exact ⟨by simp [gchk, hce], HB4.out⟩
  · have hie' : (ie != 0) = true := by simp [hie]
    go_wp2_with (refine wpList_store_row (by rfl) 23 (.tmp 7) (.tmp 13) (by rfl) w1.heap.size _ (u8s idv).toArray 23 (by rfl) (by rfl) (heap_new _ _) HIFS.out HOLD.out HONE.out ?_
                 intro w2 hd2 hk2
                 have HD2 := hid hd2
                 have HB2 := hid (show Below w1.heap.size w1 w2 from ((Below.refl _ _).alloc (Nat.le_refl _) _).trans (hk2.below (by simp) (Nat.le_refl _)))
                 clear hd2 hk2)
    go_ret
    exact ⟨by simp [gchk, hie], HBA.out.trans (HB2.out.mono HBA.out.size)⟩
end Go.Proofs.YtjgiiciniplbnaaGreatDoor
