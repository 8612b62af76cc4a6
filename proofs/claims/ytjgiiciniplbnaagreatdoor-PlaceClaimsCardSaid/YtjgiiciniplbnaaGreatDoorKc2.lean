/-
  Note, general. · Blocked, general.
-/
import Derived.Test.YtjgiiciniplbnaaGreatDoorKc1
namespace Go.Proofs.YtjgiiciniplbnaaGreatDoor
open Go Go.RowKit Go.Lib Go.Sort
open Go.Maps (Keyed)
set_option linter.unusedVariables false

theorem eqMapSome (b : Nat) (w : World) : (binOp .eql 132 (.map (some b)) (.map none)).run Tryz.prog w = .ok (.bool false) w := by kernel_rfl
theorem CM.put {B N M cb mb n ib nj : Nat} {w0 w : World} {D DX : DataW Unit} {J : Jt} {kl : Lit} (h : CM B w0 N cb mb n D J) (hJ : J kl = none) (hik : WideAt.IsKeyLit kl) (hD : Maps.IsMap D) (hblk : w.heap[cb]? = some (.cells #[.map (some mb)] 130 (0, 0)))
    (hout : w.ownsMap Tryz.prog 23 mapR mb (n + 1) (D.put kl (.lit (.int .i64 (ib : Int))))) (hin : InM w M ib nj DX) (hot : ∀ kl' a, J kl' = some a → InM w M a.1 a.2.1 a.2.2) (hfr : ∀ kl' a, J kl' = some a → a.1 ≠ ib) (hib : ib ≠ mb ∧ ib ≠ cb ∧ B ≤ ib) (hM : n + 1 ≤ M)
    (hdig : ∃ od : List Nat, od.length = 32 ∧ (∀ y ∈ od, y < 256) ∧ keyOf Tryz.prog 23 (.agg (u8s od).toArray) = some kl) : CM B w M cb mb (n + 1) (D.put kl (.lit (.int .i64 (ib : Int)))) (Jset J kl (some (ib, nj, DX))) where
  blk := hblk
  ne := h.ne
  lo := h.lo
  out := hout
  n := hM
  non := fun z e => by
    by_cases hz : z = kl
    · subst hz; rw [Jset_same] at e; cases e
    · rw [Jset_other J _ hz] at e; rw [Maps.has_put_other hz]; exact h.non z e
  at_ := fun z a e => by
    by_cases hz : z = kl
    · subst hz; rw [Jset_same] at e; cases e; exact fun y => Maps.atKey_put_same hD hik _ y
    · rw [Jset_other J _ hz] at e; exact fun y => (Maps.atKey_put_other hz _ y).trans (h.at_ z a e y)
  inn := fun z a e => by
    by_cases hz : z = kl
    · subst hz; rw [Jset_same] at e; cases e; exact ⟨hin, hib⟩
    · rw [Jset_other J _ hz] at e; exact ⟨hot z a e, (h.inn z a e).2⟩
  dig := fun z a e => by
    by_cases hz : z = kl
    · subst hz; exact hdig
    · rw [Jset_other J _ hz] at e; exact h.dig z a e
  inj := fun z z' a b e e' hne => by
    by_cases hz : z = kl
    · subst hz
      rw [Jset_same] at e; cases e
      rw [Jset_other J _ (fun x => hne x.symm)] at e'
      exact fun h1 => hfr z' b e' h1.symm
    · rw [Jset_other J _ hz] at e
      by_cases hz' : z' = kl
      · subst hz'
        rw [Jset_same] at e'; cases e'
        exact hfr z a e
      · rw [Jset_other J _ hz'] at e'
        exact h.inj z z' a b e e' hne
theorem keys_put {D : DataW Unit} {p : Nat} (hp : p < 16) {d : DataW Unit} (h : ∀ k, Maps.has D k = true → ∃ p : Nat, p < 16 ∧ k = .int .i64 (p : Int)) : ∀ k, Maps.has (D.put (.int .i64 (p : Int)) d) k = true → ∃ p : Nat, p < 16 ∧ k = .int .i64 (p : Int) := fun k hk => by
  by_cases e : k = .int .i64 (p : Int)
  · exact ⟨p, hp, e⟩
  · rw [Maps.has_put_other e] at hk
    exact h k hk
set_option maxRecDepth 100000 in
set_option maxHeartbeats 8000000 in
/-- of a number that is no peer's -/
theorem Note_bad (B N cb mb n : Nat) (D : DataW Unit) (J : Jt) (OB : Array Value) (x : Int) (hx : ¬ (0 ≤ x ∧ x < 16)) (u : Value) (w : World) (hc : CM B w N cb mb n D J) :
    Calls Tryz.prog 33 #[.pointer (some ⟨cb, 0, none⟩), .agg OB, .int .i64 x, u] w fun e w' => e = .returned (.tuple #[]) ∧ Below w.heap.size w w' := by
  obtain ⟨w1, hw1⟩ : ∃ y, y = w.alloc (.cells OB 23) := ⟨_, rfl⟩
  have HB1 := hid (show Below w.heap.size w w1 from by rw [hw1]; exact (Below.refl _ _).alloc (Nat.le_refl _) _)
  have HW1 := hid hw1
  have HIP := hid (isPeer_any x w1)
  have e1 : (decide (0 ≤ x) && decide (x < 16)) = false := by simp; omega
  rw [e1] at HIP
  clear hw1 e1 hc hx
  go_enter Tryz.func33, Tryz.ntmps33
  go_upto_region 1 with fail
  rw [← HW1.out]
  go_wp2_with fail
  refine HIP.out.mono ?_
  rintro e w2 ⟨rfl, rfl⟩
  go_wp2_with fail
  refine bodyPost_ret (results_none rfl _ _ _) rfl ?_
  exact ⟨rfl, HB1.out⟩
set_option maxRecDepth 100000 in
set_option maxHeartbeats 8000000 in
/-- of an object with claims -/
theorem Note_more (B N cb mb n ib ni : Nat) (D DI : DataW Unit) (J : Jt) (hN : N < 1000000) (obj : List Nat) (ho : obj.length = 32) (kl : Lit) (hkl : keyOf Tryz.prog 23 (.agg (u8s obj).toArray) = some kl) (p : Nat) (hp : p < 16) (t : Int) (ht0 : 0 ≤ t) (ht1 : t < 18446744073709551616) (w : World) (hc : CM B w N cb mb n D J) (ha : J kl = some (ib, ni, DI)) :
    Calls Tryz.prog 33 #[.pointer (some ⟨cb, 0, none⟩), .agg (u8s obj).toArray, .int .i64 (p : Int), .int .u64 t] w fun e w' => e = .returned (.tuple #[]) ∧ KM B w w' ∧ CM B w' (N + 1) cb mb n D (Jset J kl (some (ib, ni + 1, DI.put (.int .i64 (p : Int)) (.lit (.int .u64 t))))) := by
  obtain ⟨w1, hw1⟩ : ∃ y, y = w.alloc (.cells (u8s obj).toArray 23) := ⟨_, rfl⟩
  have hb1 : Below w.heap.size w w1 := by rw [hw1]; exact (Below.refl _ _).alloc (Nat.le_refl _) _
  have HR0 := hid (show OwnD w1 w.heap.size obj from by rw [hw1]; exact heap_new _ _)
  have HC := hid hc
  have HC1 := hid (hc.below hb1)
  have HB1 := hid hb1
  have HW1 := hid hw1
  have HAJ := hid ha
  have HIF := hid (infoD obj ho)
  have HIN := hid (HC1.out.inn kl _ ha)
  obtain ⟨OB, hOB⟩ : ∃ y, y = (u8s obj).toArray := ⟨_, rfl⟩
  have HLD := hid (show ∀ wx : World, Below w1.heap.size w1 wx → (loadVar 23 ⟨w.heap.size, 0, none⟩).run Tryz.prog wx = .ok (.agg OB) wx from fun wx h => by
    rw [hOB]
    exact run_loadVar_mid (P := Tryz.prog) wx w.heap.size 0 23 (u8s obj) _ (range_own ((h.block _ (lt_of_heap HR0.out)).trans HR0.out)) Tryz.underlying23 rfl HIF.out)
  have HLU := hid (show ∀ wx : World, Below w1.heap.size w1 wx → (Instr.lookup 128 (.map (some mb)) (.agg OB) false).run Tryz.prog wx = .ok (.map (some ib)) wx from fun wx h => by
    obtain ⟨v, ps, h1, h2⟩ := (HC1.out.below h).out.lookup keyedD Tryz.underlying128 (zeroM _) (zd := .nil) (zp := []) rfl (key := .agg OB) (by rw [hOB]; exact hkl)
    rw [HC1.out.at_ kl _ HAJ.out] at h2
    rw [mapR_some h2] at h1
    exact h1)
  have HKP := hid (show ∀ wx : World, Below w1.heap.size w1 wx → wx.cell? ⟨cb, 0, none⟩ = some (.map (some mb)) ∧ (loadVar 23 ⟨w.heap.size, 0, none⟩).run Tryz.prog wx = .ok (.agg OB) wx ∧ (Instr.lookup 128 (.map (some mb)) (.agg OB) false).run Tryz.prog wx = .ok (.map (some ib)) wx from fun wx h => ⟨cell_of_heap (HC1.out.below h).blk 0, HLD.out wx h, HLU.out wx h⟩)
  rw [← hOB] at HW1 ⊢
  have HIP := hid (isPeer_any (p : Int) w1)
  have e1 : (decide (0 ≤ (p : Int)) && decide ((p : Int) < 16)) = true := by simp; omega
  rw [e1] at HIP
  have hkI : keyOf Tryz.prog 3 (.int .i64 (p : Int)) = some (.int .i64 (p : Int)) := Maps.keyOf_int_mk Tryz.underlying3 (by
    have e1 : IntKind.i64.min = -9223372036854775808 := rfl
    have e2 : IntKind.i64.max = 9223372036854775807 := rfl
    simp only [Lit.wf, Bool.and_eq_true, decide_eq_true_eq]
    omega)
  have hvU : plainElem (H := Unit) Tryz.prog 43 (.int .u64 t) = some (.lit (.int .u64 t), []) := plainElem_int Tryz.underlying43 (by
    have e1 : IntKind.u64.min = 0 := rfl
    have e2 : IntKind.u64.max = 18446744073709551615 := rfl
    simp only [Lit.wf, Bool.and_eq_true, decide_eq_true_eq]
    omega)
  have HKI := hid hkI
  have HVU := hid hvU
  have heqm := eqMapSome ib
  clear hc hb1 hw1 hOB hkl ha e1 hkI hvU
  go_enter Tryz.func33, Tryz.ntmps33
  go_upto_region 1 with fail
  rw [← HW1.out]
  go_wp2_with fail
  refine HIP.out.mono ?_
  rintro e w2 ⟨rfl, rfl⟩
  go_upto_region 2 with fail
  refine wp_region_held_drew (S := (fun wx : World => wx.cell? ⟨cb, 0, none⟩ = some (.map (some mb)) ∧ (loadVar 23 ⟨w.heap.size, 0, none⟩).run Tryz.prog wx = .ok (.agg OB) wx ∧ (Instr.lookup 128 (.map (some mb)) (.agg OB) false).run Tryz.prog wx = .ok (.map (some ib)) wx)) (by kernel_rfl) (HKP.out _ (bel_drewN (Below.refl w1.heap.size w1) 1)) (fun hHeld => ?_)
  refine wpAnyH_take (i := 0) (oi := { dst := some 16, op := Op.move (Operand.tmp 0), type := 40, pos := "claims.go:25", after := #[], guard := none }) (v := ?_) rfl (by kernel_rfl) (by kernel_rfl) (by kernel_rfl) (fun _ _ _ h => h) (Or.inl ⟨by rfl, ?hy⟩) hHeld ?_
  case hy => (intro w hSw; (try dsimp only at hSw); obtain ⟨_, _, _⟩ := hSw; go_simp; all_goals (with_reducible rfl))
  try simp only [Act.put, List.setIfInBounds_toArray, List.set_cons_zero, List.set_cons_succ]
  refine wpAnyH_take (i := 1) (oi := { dst := some 17, op := Op.nilCheck (Operand.tmp 16), type := 0, pos := "claims.go:25", after := #[{ on := 0, ground := Ground.data }], guard := none }) (v := ?_) rfl (by kernel_rfl) (by kernel_rfl) (by kernel_rfl) (fun _ _ _ h => h) (Or.inl ⟨by rfl, ?hy⟩) hHeld ?_
  case hy => (intro w hSw; (try dsimp only at hSw); obtain ⟨_, _, _⟩ := hSw; go_simp; all_goals (with_reducible rfl))
  try simp only [Act.put, List.setIfInBounds_toArray, List.set_cons_zero, List.set_cons_succ]
  refine wpAnyH_take (i := 2) (oi := { dst := some 18, op := Op.fieldAddr 130 (Operand.tmp 17) 0, type := 0, pos := "claims.go:25", after := #[{ on := 1, ground := Ground.data }], guard := none }) (v := ?_) rfl (by kernel_rfl) (by kernel_rfl) (by kernel_rfl) (fun _ _ _ h => h) (Or.inl ⟨by rfl, ?hy⟩) hHeld ?_
  case hy => (intro w hSw; (try dsimp only at hSw); obtain ⟨_, _, _⟩ := hSw; go_simp; all_goals (with_reducible rfl))
  try simp only [Act.put, List.setIfInBounds_toArray, List.set_cons_zero, List.set_cons_succ]
  refine wpAnyH_take (i := 3) (oi := { dst := some 19, op := Op.load 128 (Operand.tmp 18), type := 128, pos := "claims.go:25", after := #[{ on := 2, ground := Ground.data }], guard := none }) (v := ?_) rfl (by kernel_rfl) (by kernel_rfl) (by kernel_rfl) (fun _ _ _ h => h) (Or.inl ⟨by rfl, ?hy⟩) hHeld ?_
  case hy => (intro w hSw; (try dsimp only at hSw); obtain ⟨_, _, _⟩ := hSw; go_simp; all_goals (with_reducible rfl))
  try simp only [Act.put, List.setIfInBounds_toArray, List.set_cons_zero, List.set_cons_succ]
  refine wpAnyH_take (i := 4) (oi := { dst := some 20, op := Op.load 23 (Operand.tmp 5), type := 23, pos := "claims.go:25", after := #[], guard := none }) (v := .agg OB) rfl (by kernel_rfl) (by kernel_rfl) (by kernel_rfl) (fun _ _ _ h => h) (Or.inl ⟨by rfl, ?hy⟩) hHeld ?_
  case hy => (intro w hSw; exact run_load_opP hSw.2.1)
  try simp only [Act.put, List.setIfInBounds_toArray, List.set_cons_zero, List.set_cons_succ]
  refine wpAnyH_take (i := 5) (oi := { dst := some 21, op := Op.lookup 128 (Operand.tmp 19) (Operand.tmp 20) false, type := 132, pos := "claims.go:25", after := #[{ on := 3, ground := Ground.data }, { on := 4, ground := Ground.data }], guard := none }) (v := .map (some ib)) rfl (by kernel_rfl) (by kernel_rfl) (by kernel_rfl) (fun _ _ _ h => h) (Or.inl ⟨by rfl, ?hy⟩) hHeld ?_
  case hy => (intro w hSw; exact run_lookup_op hSw.2.2)
  try simp only [Act.put, List.setIfInBounds_toArray, List.set_cons_zero, List.set_cons_succ]
  refine wpAnyH_take (i := 6) (oi := { dst := some 8, op := Op.assign (Operand.tmp 21), type := 132, pos := "claims.go:25", after := #[{ on := 5, ground := Ground.data }, { on := 0, ground := Ground.phase }, { on := 1, ground := Ground.phase }, { on := 2, ground := Ground.phase }, { on := 3, ground := Ground.phase }, { on := 4, ground := Ground.phase }, { on := 5, ground := Ground.phase }], guard := none }) (v := ?_) rfl (by kernel_rfl) (by kernel_rfl) (by kernel_rfl) (fun _ _ _ h => h) (Or.inl ⟨by rfl, ?hy⟩) hHeld ?_
  case hy => (intro w hSw; (try dsimp only at hSw); obtain ⟨_, _, _⟩ := hSw; go_simp; all_goals (with_reducible rfl))
  try simp only [Act.put, List.setIfInBounds_toArray, List.set_cons_zero, List.set_cons_succ]
  refine wpAnyH_done (by kernel_rfl) ?_ _
  have HNI := hid HIN.out.1.ni
  have hnm : ni < maxLen := by have := HNI.out; unfold maxLen; omega
  have HN2 := hid (show (w1.drewN 1).ownsMap (H := Unit) Tryz.prog 3 (plainElem Tryz.prog 43) ib ni DI from (HIN.out.1.grown (grown_below (bel_drewN (Below.refl w1.heap.size w1) 1)) (by simp)).own)
  go_wp2_with (refine wpList_mapUpdate_own _ rfl (.tmp 31) (.tmp 32) (.tmp 33) 132 rfl 3 43 keyedI Tryz.underlying132 (plainElem (H := Unit) Tryz.prog 43) ib ni DI rfl HN2.out hnm _ _ (.int .i64 (p : Int)) rfl rfl HKI.out (.lit (.int .u64 t)) [] HVU.out ?_
               intro w5 hown5 hg5)
  go_end0
  have hd := grown_below (bel_drewN (Below.refl w1.heap.size w1) 1)
  have hmp := ownsMap_map HN2.out
  have hBw : B ≤ w.heap.size := by have := HC.out.out.lt; have := HC.out.lo; omega
  have hBw1 : B ≤ w1.heap.size := Nat.le_trans hBw HB1.out.size
  refine ⟨rfl, ?_, ?_⟩
  · exact (((KM.refl B w).grown (grown_below HB1.out) hBw (fun q hq => by cases hq)).grown hd hBw1 (fun q hq => by cases hq)).grown hg5 (show B ≤ (w1.drewN 1).heap.size from hBw1) (fun q hq => by cases hq; exact ⟨HIN.out.2.2.2, .inr hmp⟩)
  · have h2 := (HC1.out.grown hd).mono (Nat.le_succ N)
    refine h2.set HAJ.out ((hg5.block cb (lt_of_heap h2.blk) (by simp; exact fun e => HIN.out.2.2.1 e.symm)).trans h2.blk) (h2.out.kept hg5 (by simp; exact fun e => HIN.out.2.1 e.symm)) ⟨hown5, by have := HNI.out; omega, keys_put hp HIN.out.1.keys⟩ (fun z a e hz => (h2.inn z a e).1.grown hg5 (by simp; exact h2.inj z kl a (ib, ni, DI) e HAJ.out hz))
set_option maxRecDepth 100000 in
set_option maxHeartbeats 8000000 in
/-- of an object without claims -/
theorem Note_new (B N cb mb n : Nat) (D : DataW Unit) (J : Jt) (hN : N < 1000000) (obj : List Nat) (ho : obj.length = 32) (hlt : ∀ y ∈ obj, y < 256) (kl : Lit) (hkl : keyOf Tryz.prog 23 (.agg (u8s obj).toArray) = some kl) (p : Nat) (hp : p < 16) (t : Int) (ht0 : 0 ≤ t) (ht1 : t < 18446744073709551616) (w : World) (hc : CM B w N cb mb n D J) (hJ : J kl = none) :
    Calls Tryz.prog 33 #[.pointer (some ⟨cb, 0, none⟩), .agg (u8s obj).toArray, .int .i64 (p : Int), .int .u64 t] w fun e w' => e = .returned (.tuple #[]) ∧ KM B w w' ∧ ∃ ib : Nat, CM B w' (N + 1) cb mb (n + 1) (D.put kl (.lit (.int .i64 (ib : Int)))) (Jset J kl (some (ib, 1, (DataW.map []).put (.int .i64 (p : Int)) (.lit (.int .u64 t))))) := by
  obtain ⟨w1, hw1⟩ : ∃ y, y = w.alloc (.cells (u8s obj).toArray 23) := ⟨_, rfl⟩
  have hb1 : Below w.heap.size w w1 := by rw [hw1]; exact (Below.refl _ _).alloc (Nat.le_refl _) _
  have HR0 := hid (show OwnD w1 w.heap.size obj from by rw [hw1]; exact heap_new _ _)
  have HC := hid hc
  have HC1 := hid (hc.below hb1)
  have HB1 := hid hb1
  have HW1 := hid hw1
  have HJN := hid hJ
  have HIF := hid (infoD obj ho)
  obtain ⟨OB, hOB⟩ : ∃ y, y = (u8s obj).toArray := ⟨_, rfl⟩
  have HLD := hid (show ∀ wx : World, Below w1.heap.size w1 wx → (loadVar 23 ⟨w.heap.size, 0, none⟩).run Tryz.prog wx = .ok (.agg OB) wx from fun wx h => by
    rw [hOB]
    exact run_loadVar_mid (P := Tryz.prog) wx w.heap.size 0 23 (u8s obj) _ (range_own ((h.block _ (lt_of_heap HR0.out)).trans HR0.out)) Tryz.underlying23 rfl HIF.out)
  have HLU := hid (show ∀ wx : World, Below w1.heap.size w1 wx → (Instr.lookup 128 (.map (some mb)) (.agg OB) false).run Tryz.prog wx = .ok (.map none) wx from fun wx h => by
    obtain ⟨v, ps, h1, h2⟩ := (HC1.out.below h).out.lookup keyedD Tryz.underlying128 (zeroM _) (zd := .nil) (zp := []) rfl (key := .agg OB) (by rw [hOB]; exact hkl)
    rw [Maps.atKey_of_not_has (HC1.out.non kl HJN.out)] at h2
    rw [mapR_nil h2] at h1
    exact h1)
  have HKP := hid (show ∀ wx : World, Below w1.heap.size w1 wx → wx.cell? ⟨cb, 0, none⟩ = some (.map (some mb)) ∧ (loadVar 23 ⟨w.heap.size, 0, none⟩).run Tryz.prog wx = .ok (.agg OB) wx ∧ (Instr.lookup 128 (.map (some mb)) (.agg OB) false).run Tryz.prog wx = .ok (.map none) wx from fun wx h => ⟨cell_of_heap (HC1.out.below h).blk 0, HLD.out wx h, HLU.out wx h⟩)
  rw [← hOB] at HW1 ⊢
  have HIP := hid (isPeer_any (p : Int) w1)
  have e1 : (decide (0 ≤ (p : Int)) && decide ((p : Int) < 16)) = true := by simp; omega
  rw [e1] at HIP
  have hkI : keyOf Tryz.prog 3 (.int .i64 (p : Int)) = some (.int .i64 (p : Int)) := Maps.keyOf_int_mk Tryz.underlying3 (by
    have e1 : IntKind.i64.min = -9223372036854775808 := rfl
    have e2 : IntKind.i64.max = 9223372036854775807 := rfl
    simp only [Lit.wf, Bool.and_eq_true, decide_eq_true_eq]
    omega)
  have hvU : plainElem (H := Unit) Tryz.prog 43 (.int .u64 t) = some (.lit (.int .u64 t), []) := plainElem_int Tryz.underlying43 (by
    have e1 : IntKind.u64.min = 0 := rfl
    have e2 : IntKind.u64.max = 18446744073709551615 := rfl
    simp only [Lit.wf, Bool.and_eq_true, decide_eq_true_eq]
    omega)
  have HKI := hid hkI
  have HVU := hid hvU
  have heqm := eqMapNil
  have hmm := @run_makeMap Tryz.prog
  have HDIG := hid (show ∃ od : List Nat, od.length = 32 ∧ (∀ y ∈ od, y < 256) ∧ keyOf Tryz.prog 23 (.agg (u8s od).toArray) = some kl from ⟨obj, ho, hlt, hkl⟩)
  have HOBE := hid hOB
  have HKO := hid (show keyOf Tryz.prog 23 (.agg OB) = some kl from by rw [hOB]; exact hkl)
  clear hc hb1 hw1 hOB hkl hJ e1 hkI hvU
  go_enter Tryz.func33, Tryz.ntmps33
  go_upto_region 1 with fail
  rw [← HW1.out]
  go_wp2_with fail
  refine HIP.out.mono ?_
  rintro e w2 ⟨rfl, rfl⟩
  go_upto_region 2 with fail
  refine wp_region_held_drew (S := (fun wx : World => wx.cell? ⟨cb, 0, none⟩ = some (.map (some mb)) ∧ (loadVar 23 ⟨w.heap.size, 0, none⟩).run Tryz.prog wx = .ok (.agg OB) wx ∧ (Instr.lookup 128 (.map (some mb)) (.agg OB) false).run Tryz.prog wx = .ok (.map none) wx)) (by kernel_rfl) (HKP.out _ (bel_drewN (Below.refl w1.heap.size w1) 1)) (fun hHeld => ?_)
  refine wpAnyH_take (i := 0) (oi := { dst := some 16, op := Op.move (Operand.tmp 0), type := 40, pos := "claims.go:25", after := #[], guard := none }) (v := ?_) rfl (by kernel_rfl) (by kernel_rfl) (by kernel_rfl) (fun _ _ _ h => h) (Or.inl ⟨by rfl, ?hy⟩) hHeld ?_
  case hy => (intro w hSw; (try dsimp only at hSw); obtain ⟨_, _, _⟩ := hSw; go_simp; all_goals (with_reducible rfl))
  try simp only [Act.put, List.setIfInBounds_toArray, List.set_cons_zero, List.set_cons_succ]
  refine wpAnyH_take (i := 1) (oi := { dst := some 17, op := Op.nilCheck (Operand.tmp 16), type := 0, pos := "claims.go:25", after := #[{ on := 0, ground := Ground.data }], guard := none }) (v := ?_) rfl (by kernel_rfl) (by kernel_rfl) (by kernel_rfl) (fun _ _ _ h => h) (Or.inl ⟨by rfl, ?hy⟩) hHeld ?_
  case hy => (intro w hSw; (try dsimp only at hSw); obtain ⟨_, _, _⟩ := hSw; go_simp; all_goals (with_reducible rfl))
  try simp only [Act.put, List.setIfInBounds_toArray, List.set_cons_zero, List.set_cons_succ]
  refine wpAnyH_take (i := 2) (oi := { dst := some 18, op := Op.fieldAddr 130 (Operand.tmp 17) 0, type := 0, pos := "claims.go:25", after := #[{ on := 1, ground := Ground.data }], guard := none }) (v := ?_) rfl (by kernel_rfl) (by kernel_rfl) (by kernel_rfl) (fun _ _ _ h => h) (Or.inl ⟨by rfl, ?hy⟩) hHeld ?_
  case hy => (intro w hSw; (try dsimp only at hSw); obtain ⟨_, _, _⟩ := hSw; go_simp; all_goals (with_reducible rfl))
  try simp only [Act.put, List.setIfInBounds_toArray, List.set_cons_zero, List.set_cons_succ]
  refine wpAnyH_take (i := 3) (oi := { dst := some 19, op := Op.load 128 (Operand.tmp 18), type := 128, pos := "claims.go:25", after := #[{ on := 2, ground := Ground.data }], guard := none }) (v := ?_) rfl (by kernel_rfl) (by kernel_rfl) (by kernel_rfl) (fun _ _ _ h => h) (Or.inl ⟨by rfl, ?hy⟩) hHeld ?_
  case hy => (intro w hSw; (try dsimp only at hSw); obtain ⟨_, _, _⟩ := hSw; go_simp; all_goals (with_reducible rfl))
  try simp only [Act.put, List.setIfInBounds_toArray, List.set_cons_zero, List.set_cons_succ]
  refine wpAnyH_take (i := 4) (oi := { dst := some 20, op := Op.load 23 (Operand.tmp 5), type := 23, pos := "claims.go:25", after := #[], guard := none }) (v := .agg OB) rfl (by kernel_rfl) (by kernel_rfl) (by kernel_rfl) (fun _ _ _ h => h) (Or.inl ⟨by rfl, ?hy⟩) hHeld ?_
  case hy => (intro w hSw; exact run_load_opP hSw.2.1)
  try simp only [Act.put, List.setIfInBounds_toArray, List.set_cons_zero, List.set_cons_succ]
  refine wpAnyH_take (i := 5) (oi := { dst := some 21, op := Op.lookup 128 (Operand.tmp 19) (Operand.tmp 20) false, type := 132, pos := "claims.go:25", after := #[{ on := 3, ground := Ground.data }, { on := 4, ground := Ground.data }], guard := none }) (v := .map none) rfl (by kernel_rfl) (by kernel_rfl) (by kernel_rfl) (fun _ _ _ h => h) (Or.inl ⟨by rfl, ?hy⟩) hHeld ?_
  case hy => (intro w hSw; exact run_lookup_op hSw.2.2)
  try simp only [Act.put, List.setIfInBounds_toArray, List.set_cons_zero, List.set_cons_succ]
  refine wpAnyH_take (i := 6) (oi := { dst := some 8, op := Op.assign (Operand.tmp 21), type := 132, pos := "claims.go:25", after := #[{ on := 5, ground := Ground.data }, { on := 0, ground := Ground.phase }, { on := 1, ground := Ground.phase }, { on := 2, ground := Ground.phase }, { on := 3, ground := Ground.phase }, { on := 4, ground := Ground.phase }, { on := 5, ground := Ground.phase }], guard := none }) (v := ?_) rfl (by kernel_rfl) (by kernel_rfl) (by kernel_rfl) (fun _ _ _ h => h) (Or.inl ⟨by rfl, ?hy⟩) hHeld ?_
  case hy => (intro w hSw; (try dsimp only at hSw); obtain ⟨_, _, _⟩ := hSw; go_simp; all_goals (with_reducible rfl))
  try simp only [Act.put, List.setIfInBounds_toArray, List.set_cons_zero, List.set_cons_succ]
  refine wpAnyH_done (by kernel_rfl) ?_ _
  have HN0 := hid HC.out.n
  have hnm : n < maxLen := by have := HC.out.n; unfold maxLen; omega
  obtain ⟨ib, hib⟩ : ∃ y, y = w1.heap.size := ⟨_, rfl⟩
  have hBw : B ≤ w.heap.size := by have := HC.out.out.lt; have := HC.out.lo; omega
  have hBw1 : B ≤ w1.heap.size := Nat.le_trans hBw HB1.out.size
  go_upto_region 5 with fail
  obtain ⟨w3, hw3⟩ : ∃ y, y = (w1.alloc (.map #[] 0)).drew := ⟨_, rfl⟩
  have hb13 : Below w1.heap.size w1 w3 := by rw [hw3]; exact ((Below.refl _ _).alloc (Nat.le_refl _) _).drew
  have HN3 := hid (show w3.ownsMap (H := Unit) Tryz.prog 3 (plainElem Tryz.prog 43) ib 0 (.map []) from by
    have h := World.ownsMap_made (H := Unit) w1 Tryz.prog 3 (plainElem Tryz.prog 43)
    rw [hw3, hib]
    exact h.drew)
  have HB13 := hid hb13
  have HC3 := hid (HC1.out.below hb13)
  have hw13 : ib < w3.heap.size := by rw [hw3, hib]; simp
  have hbox : w.heap.size < w1.heap.size := lt_of_heap HR0.out
  rw [← hw3, ← hib]
  have hmib : mb ≠ ib := by have := HC1.out.out.lt; omega
  have hcib : cb ≠ ib := by have := lt_of_heap HC1.out.blk; omega
  have hbm : w.heap.size ≠ mb := fun e => map_ncell (ownsMap_map HC1.out.out) HR0.out e.symm
  have HKX := hid (show ∀ wx : World, wx.heap[cb]? = w3.heap[cb]? → wx.heap[w.heap.size]? = w3.heap[w.heap.size]? → wx.cell? ⟨cb, 0, none⟩ = some (.map (some mb)) ∧ (loadVar 23 ⟨w.heap.size, 0, none⟩).run Tryz.prog wx = .ok (.agg OB) wx from fun wx h1 h2 => by
    refine ⟨cell_of_heap (h1.trans HC3.out.blk) 0, ?_⟩
    have h3 := h2.trans ((HB13.out.block _ hbox).trans HR0.out)
    rw [HOBE.out]
    exact run_loadVar_mid (P := Tryz.prog) wx w.heap.size 0 23 (u8s obj) _ (range_own h3) Tryz.underlying23 rfl HIF.out)
  have hw1s : w1.heap.size = ib := hib.symm
  clear hw3 hib hb13 hmm heqm
  refine wp_region_held_drew (S := (fun wx : World => wx.cell? ⟨cb, 0, none⟩ = some (.map (some mb)) ∧ (loadVar 23 ⟨w.heap.size, 0, none⟩).run Tryz.prog wx = .ok (.agg OB) wx)) (by kernel_rfl) (HKX.out _ rfl rfl) (fun hHeld => ?_)
  refine wpAnyH_take (i := 0) (oi := { dst := some 25, op := Op.move (Operand.tmp 0), type := 40, pos := "claims.go:28", after := #[], guard := none }) (v := ?_) rfl (by kernel_rfl) (by kernel_rfl) (by kernel_rfl) (fun _ _ _ h => h) (Or.inl ⟨by rfl, ?hy⟩) hHeld ?_
  case hy => (intro w hSw; (try dsimp only at hSw); obtain ⟨_, _⟩ := hSw; go_simp; all_goals (with_reducible rfl))
  try simp only [Act.put, List.setIfInBounds_toArray, List.set_cons_zero, List.set_cons_succ]
  refine wpAnyH_take (i := 1) (oi := { dst := some 26, op := Op.nilCheck (Operand.tmp 25), type := 0, pos := "claims.go:28", after := #[{ on := 0, ground := Ground.data }], guard := none }) (v := ?_) rfl (by kernel_rfl) (by kernel_rfl) (by kernel_rfl) (fun _ _ _ h => h) (Or.inl ⟨by rfl, ?hy⟩) hHeld ?_
  case hy => (intro w hSw; (try dsimp only at hSw); obtain ⟨_, _⟩ := hSw; go_simp; all_goals (with_reducible rfl))
  try simp only [Act.put, List.setIfInBounds_toArray, List.set_cons_zero, List.set_cons_succ]
  refine wpAnyH_take (i := 2) (oi := { dst := some 27, op := Op.fieldAddr 130 (Operand.tmp 26) 0, type := 0, pos := "claims.go:28", after := #[{ on := 1, ground := Ground.data }], guard := none }) (v := ?_) rfl (by kernel_rfl) (by kernel_rfl) (by kernel_rfl) (fun _ _ _ h => h) (Or.inl ⟨by rfl, ?hy⟩) hHeld ?_
  case hy => (intro w hSw; (try dsimp only at hSw); obtain ⟨_, _⟩ := hSw; go_simp; all_goals (with_reducible rfl))
  try simp only [Act.put, List.setIfInBounds_toArray, List.set_cons_zero, List.set_cons_succ]
  refine wpAnyH_take (i := 3) (oi := { dst := some 28, op := Op.load 128 (Operand.tmp 27), type := 128, pos := "claims.go:28", after := #[{ on := 2, ground := Ground.data }], guard := none }) (v := ?_) rfl (by kernel_rfl) (by kernel_rfl) (by kernel_rfl) (fun _ _ _ h => h) (Or.inl ⟨by rfl, ?hy⟩) hHeld ?_
  case hy => (intro w hSw; (try dsimp only at hSw); obtain ⟨_, _⟩ := hSw; go_simp; all_goals (with_reducible rfl))
  try simp only [Act.put, List.setIfInBounds_toArray, List.set_cons_zero, List.set_cons_succ]
  refine wpAnyH_take (i := 4) (oi := { dst := some 29, op := Op.load 23 (Operand.tmp 5), type := 23, pos := "claims.go:28", after := #[], guard := none }) (v := .agg OB) rfl (by kernel_rfl) (by kernel_rfl) (by kernel_rfl) (fun _ _ _ h => h) (Or.inl ⟨by rfl, ?hy⟩) hHeld ?_
  case hy => (intro w hSw; exact run_load_opP hSw.2)
  try simp only [Act.put, List.setIfInBounds_toArray, List.set_cons_zero, List.set_cons_succ]
  refine wpAnyH_take (i := 5) (oi := { dst := some 30, op := Op.move (Operand.tmp 8), type := 132, pos := "claims.go:28", after := #[], guard := none }) (v := ?_) rfl (by kernel_rfl) (by kernel_rfl) (by kernel_rfl) (fun _ _ _ h => h) (Or.inl ⟨by rfl, ?hy⟩) hHeld ?_
  case hy => (intro w hSw; (try dsimp only at hSw); obtain ⟨_, _⟩ := hSw; go_simp; all_goals (with_reducible rfl))
  try simp only [Act.put, List.setIfInBounds_toArray, List.set_cons_zero, List.set_cons_succ]
  refine wpAnyH_ready (rs := [6]) (by kernel_rfl) (by simp) ?_
  refine AllReadyH.cons (o := { dst := none, op := Op.mapUpdate 128 (Operand.tmp 28) (Operand.tmp 29) (Operand.tmp 30), type := 0, pos := "claims.go:28", after := #[{ on := 3, ground := Ground.data }, { on := 4, ground := Ground.data }, { on := 5, ground := Ground.data }, { on := 0, ground := Ground.phase }, { on := 1, ground := Ground.phase }, { on := 2, ground := Ground.phase }, { on := 3, ground := Ground.phase }, { on := 4, ground := Ground.phase }, { on := 5, ground := Ground.phase }], guard := none }) rfl (fun K hK => ?_) AllReadyH.nil
  refine step_mapUpdate_own rfl (.tmp 28) (.tmp 29) (.tmp 30) _ rfl 23 132 keyedD Tryz.underlying128 mapR mb n D rfl (HC3.out.grown (grown_below (bel_drewN (Below.refl w3.heap.size w3) 1))).out hnm _ _ kl rfl rfl HKO.out (.lit (.int .i64 (ib : Int))) [] rfl ?_
  intro w4 hown4 hg4
  have HO4 := hid hown4
  have HG4 := hid (show (w3.drewN 1).grownBy w4 (some mb) from hg4)
  clear hHeld hown4 hg4
  refine hK.out _ _ (HKX.out w4 (HG4.out.block cb (lt_of_heap HC3.out.blk) (by simp; exact HC3.out.ne)) (HG4.out.block w.heap.size (show w.heap.size < w3.heap.size by omega) (by simp; exact hbm))) (fun hHeld => ?_)
  clear hK K hHeld
  try simp only [Act.put]
  refine wpAnyH_done (by kernel_rfl) ?_ _
  have HN4 := hid (show w4.ownsMap (H := Unit) Tryz.prog 3 (plainElem Tryz.prog 43) ib 0 (.map []) from (HN3.out.kept (grown_below (bel_drewN (Below.refl w3.heap.size w3) 1)) (by simp)).kept HG4.out (by simp; exact fun e => hmib e.symm))
  go_wp2_with (refine wpList_mapUpdate_own _ rfl (.tmp 31) (.tmp 32) (.tmp 33) 132 rfl 3 43 keyedI Tryz.underlying132 (plainElem (H := Unit) Tryz.prog 43) ib 0 (.map []) rfl HN4.out (by unfold maxLen; omega) _ _ (.int .i64 (p : Int)) rfl rfl HKI.out (.lit (.int .u64 t)) [] HVU.out ?_
               intro w5 hown5 hg5)
  go_end0
  have hd3 := grown_below (bel_drewN (Below.refl w3.heap.size w3) 1)
  have hB3 : B ≤ w3.heap.size := Nat.le_trans hBw1 HB13.out.size
  have hz4 : w3.heap.size ≤ w4.heap.size := HG4.out.size
  have C3 := HC3.out.grown hd3
  refine ⟨rfl, ?_, ib, ?_⟩
  · exact (((((KM.refl B w).grown (grown_below HB1.out) hBw (fun q hq => by cases hq)).grown (grown_below HB13.out) hBw1 (fun q hq => by cases hq)).grown hd3 hB3 (fun q hq => by cases hq)).grown HG4.out (show B ≤ (w3.drewN 1).heap.size from hB3) (fun q hq => by cases hq; exact ⟨HC.out.lo, .inr (ownsMap_map C3.out)⟩)).grown hg5 (Nat.le_trans hB3 hz4) (fun q hq => by cases hq; exact ⟨by omega, .inr (ownsMap_map HN4.out)⟩)
  · have hlt3 : ∀ z a, J z = some a → a.1 < ib := fun z a e => by have := (HC1.out.inn z a e).1.own.lt; omega
    refine C3.put HJN.out (keyedD.key HKO.out) HC1.out.out.isMap ?_ (HO4.out.kept hg5 (by simp; exact hmib)) ⟨hown5, by omega, keys_put hp (fun k h => by cases h)⟩ (fun z a e => ?_) (fun z a e => by have := hlt3 z a e; omega) ⟨fun e => hmib e.symm, fun e => hcib e.symm, by omega⟩ (by have := HN0.out; omega) HDIG.out
    · exact (hg5.block cb (Nat.lt_of_lt_of_le (lt_of_heap C3.blk) hz4) (by simp; exact hcib)).trans ((HG4.out.block cb (lt_of_heap C3.blk) (by simp; exact C3.ne)).trans C3.blk)
    · exact (((C3.inn z a e).1.grown HG4.out (by simp; exact (C3.inn z a e).2.1)).grown hg5 (by simp; have := hlt3 z a e; omega)).mono (Nat.le_succ N)
end Go.Proofs.YtjgiiciniplbnaaGreatDoor

namespace Go.Proofs.YtjgiiciniplbnaaGreatDoor
open Go Go.RowKit Go.Lib Go.Sort
open Go.Maps (Keyed)
set_option linter.unusedVariables false

/-- a peer whose claim blocks -/
def hitB (f : Nat → Option Int) (obj : List Nat) (self clock : Int) (ll lh : List Int) (q : Nat) : Bool := match f q with | some t => curr t clock && setL ll q && !setL lh q && decide (cmpP obj (q : Int) self < 0) | none => false
def blkJ (f : Nat → Option Int) (obj : List Nat) (self clock : Int) (ll lh : List Int) : Bool := (List.range 16).any (hitB f obj self clock ll lh)
theorem blkJ_true {f : Nat → Option Int} {obj : List Nat} {self clock : Int} {ll lh : List Int} : ∀ p : Nat, p < 16 → hitB f obj self clock ll lh p = true → blkJ f obj self clock ll lh = true := fun p hp h => List.any_eq_true.2 ⟨p, List.mem_range.2 hp, h⟩
theorem blkJ_false {f : Nat → Option Int} {obj : List Nat} {self clock : Int} {ll lh : List Int} (h : ∀ p : Nat, p < 16 → hitB f obj self clock ll lh p = false) : blkJ f obj self clock ll lh = false := List.any_eq_false.2 (fun p hp => by rw [h p (List.mem_range.1 hp)]; decide)
/-- a range over no map, as a step of a region -/
theorem step_range_nil {P : Program} {w : World} {ops : Array Oper} {o : Oper} {a : Act} {K : Act → World → Prop} {Q : Exit → Act → World → Prop} {E : Prop} (hg : o.guard = none) (m : Operand) (t : TypeId) (hop : o.op = Op.range t m) (k e : TypeId) (ht : P.underlying t = some (.map k e)) (hm : a.eval m = .map none)
    (hK : K (a.put o.dst (.pointer (some ⟨w.heap.size, 0, none⟩))) (w.alloc (.mapIter none 0 #[] 0))) : if Region.wanted o (yielded ops a.tmps) = true then Oper.wp P o a w K Q else E := by
  rw [if_pos (by simp [Region.wanted, hg])]
  have hrun := run_range_nilMap (P := P) w t k e ht
  unfold Oper.wp
  simp [execOp, hop, hm, hrun, Result.andThen]
  exact hK
set_option maxRecDepth 100000 in
set_option maxHeartbeats 16000000 in
theorem Blocked_any (obj : List Nat) (ho : obj.length = 32) (hlt : ∀ x ∈ obj, x < 256) (kl : Lit) (hkl : keyOf Tryz.prog 23 (.agg (u8s obj).toArray) = some kl) (B N cb ob n ib ni : Nat) (D DI : DataW Unit) (J : Jt) (ha : J kl = some (ib, ni, DI))
    (self clock : Int) (hc0 : 0 ≤ clock) (hc1 : clock < 18446744073709551616) (al : Option Addr) (nl cl : Nat) (ll : List Int) (ah : Option Addr) (nh ch : Nat) (lh : List Int) (w : World) (V : Vars w shaRound shaStart) (hc : CM B w N cb ob n D J) (hil : Is w (.slice al nl cl) ll) (hnl : nl ≤ 1000000) (hih : Is w (.slice ah nh ch) lh) (hnh : nh ≤ 1000000) :
    Calls Tryz.prog 39 #[.pointer (some ⟨cb, 0, none⟩), .agg (u8s obj).toArray, .int .i64 self, .int .u64 clock, .slice al nl cl, .slice ah nh ch] w fun e w' => e = .returned (.bool (blkJ (vj J kl) obj self clock ll lh)) ∧ Below w.heap.size w w' := by
  obtain ⟨w1, hw1⟩ : ∃ y, y = w.alloc (.cells (u8s obj).toArray 23) := ⟨_, rfl⟩
  have hb1 : Below w.heap.size w w1 := by rw [hw1]; exact (Below.refl _ _).alloc (Nat.le_refl _) _
  have HR0 := hid (show OwnD w1 w.heap.size obj from by rw [hw1]; exact heap_new _ _)
  have HC := hid hc
  have HB1 := hid hb1
  have HW1 := hid hw1
  have HNL := hid (newPeerSet_any al nl cl ll w1 (hil.belowP hb1) hnl)
  have HNH := hid (fun (wx : World) (h : Below w.heap.size w wx) => newPeerSet_any ah nh ch lh wx (hih.belowP h) hnh)
  have HBT := hid (fun (p : Nat) (wx : World) (h : Below w.heap.size w wx) => Better_any obj ho hlt (p : Int) self wx (V.below h))
  have HIF := hid (show (Tryz.prog.info? 23).map (·.size) = some (u8s obj).length from by rw [show (u8s obj).length = 32 from by simp [u8s, ho]]; kernel_rfl)
  have hvj : vj J kl = vw DI := funext fun q => vj_some ha q
  rw [hvj]
  obtain ⟨hit, hhit⟩ : ∃ y, y = hitB (vw DI) obj self clock ll lh := ⟨_, rfl⟩
  obtain ⟨R, hR⟩ : ∃ R, R = blkJ (vw DI) obj self clock ll lh := ⟨_, rfl⟩
  have HRT := hid (show ∀ p : Nat, p < 16 → hit p = true → R = true from by rw [hR, hhit]; exact blkJ_true)
  have HRN := hid (show (∀ p : Nat, p < 16 → hit p = false) → R = false from by rw [hR, hhit]; exact blkJ_false)
  have HHN0 := hid (show ∀ p : Nat, vw DI p = none → hit p = false from fun p h => by rw [hhit]; unfold hitB; rw [h])
  have HHS := hid (show ∀ (p : Nat) (c : Int), vw DI p = some c → hit p = (curr c clock && setL ll p && !setL lh p && decide (cmpP obj (p : Int) self < 0)) from fun p c h => by rw [hhit]; unfold hitB; rw [h])
  have HIN := hid (hc.inn kl _ ha)
  rw [← hR]
  have hl1 := bools_length (setL ll)
  have hl2 := bools_length (setL lh)
  obtain ⟨BL, hBL⟩ : ∃ y, y = bools (setL ll) := ⟨_, rfl⟩
  obtain ⟨BH, hBH⟩ : ∃ y, y = bools (setL lh) := ⟨_, rfl⟩
  rw [← hBL] at HNL hl1
  rw [← hBH] at HNH hl2
  have HBL := hid hBL
  have HBH := hid hBH
  have HI1 := hid (show (Tryz.prog.info? 126).map (·.size) = some BL.toArray.size from by rw [List.size_toArray, hl1]; kernel_rfl)
  have HI2 := hid (show (Tryz.prog.info? 126).map (·.size) = some BH.toArray.size from by rw [List.size_toArray, hl2]; kernel_rfl)
  have HS1 := hid (show (16 : Nat) = BL.toArray.size from by rw [List.size_toArray, hl1])
  have HS2 := hid (show (16 : Nat) = BH.toArray.size from by rw [List.size_toArray, hl2])
  have HA1 := hid (show BL.toArray.all (·.oneCell') = true from all_oneCell_toArray (by rw [hBL]; exact bools_one _))
  have HA2 := hid (show BH.toArray.all (·.oneCell') = true from all_oneCell_toArray (by rw [hBH]; exact bools_one _))
  obtain ⟨OB, hOB⟩ : ∃ y, y = (u8s obj).toArray := ⟨_, rfl⟩
  have HLD := hid (show ∀ wx : World, Below w1.heap.size w1 wx → (loadVar 23 ⟨w.heap.size, 0, none⟩).run Tryz.prog wx = .ok (.agg OB) wx from fun wx h => by
    rw [hOB]
    exact run_loadVar_mid (P := Tryz.prog) wx w.heap.size 0 23 (u8s obj) _ (range_own ((h.block _ (lt_of_heap HR0.out)).trans HR0.out)) Tryz.underlying23 rfl HIF.out)
  have hlu : ∀ wx : World, wx.ownsMap Tryz.prog 23 mapR ob n D → (Instr.lookup 128 (.map (some ob)) (.agg OB) false).run Tryz.prog wx = .ok (.map (some ib)) wx := fun wx hx => by
    obtain ⟨v, ps, h1, h2⟩ := hx.lookup keyedD Tryz.underlying128 (zeroM _) (zd := .nil) (zp := []) rfl (key := .agg OB) (by rw [hOB]; exact hkl)
    rw [hc.at_ kl _ ha] at h2
    rw [mapR_some h2] at h1
    exact h1
  have HLU := hid hlu
  have HRX := hid (fun (wx : World) (h : Below w1.heap.size w1 wx) => range_own ((h.block _ (lt_of_heap HR0.out)).trans HR0.out))
  rw [← hOB] at HW1 ⊢
  clear hb1 hw1 hil hih hR hhit hvj hl1 hl2 hBL hBH hlu hOB V hc
  go_enter Tryz.func39, Tryz.ntmps39
  go_upto_region 1 with fail
  rw [← HW1.out]
  go_wp2_with fail
  refine HNL.out.mono ?_
  rintro e w2 ⟨rfl, hb2⟩
  have HB2 := hid (HB1.out.trans (hb2.mono HB1.out.size))
  have HX2 := hid hb2
  clear hb2
  go_wp2_with fail
  refine (HNH.out w2 HB2.out).mono ?_
  rintro e w3 ⟨rfl, hb3⟩
  have HB3 := hid (HB2.out.trans (hb3.mono HB2.out.size))
  have HX3 := hid (HX2.out.trans (hb3.mono HX2.out.size))
  clear hb3 HNL HNH
  obtain ⟨Z, hZ⟩ : ∃ y : Obj, y = .cells (bools fun _ => false).toArray 126 := ⟨_, rfl⟩
  have hz3 : w1.heap.size ≤ w3.heap.size := HX3.out.size
  have HHN := hid (show ((w3.alloc (.cells (bools fun _ => false).toArray 126)).alloc (.cells (bools fun _ => false).toArray 126)).heap[w3.heap.size + 1]? = some (.cells (bools fun _ => false).toArray 126 (0, 0)) from by
    have h := heap_new (w3.alloc (.cells (bools fun _ => false).toArray 126)) (.cells (bools fun _ => false).toArray 126)
    have e : (w3.alloc (.cells (bools fun _ => false).toArray 126)).heap.size = w3.heap.size + 1 := by simp
    rw [e] at h
    exact h)
  go_wp2_with (first
    | (refine wpList_store_row (by rfl) 126 (.tmp 13) (.tmp 20) (by rfl) w3.heap.size _ BL.toArray 126 (by rfl) (by rfl) (heap_alloc (heap_new _ _) _) HI1.out HS1.out HA1.out ?_
       intro w5 hw5 hk5
       have HW5 := hid hw5
       have HK5 := hid hk5
       clear hw5 hk5)
    | (refine wpList_store_row (by rfl) 126 (.tmp 14) (.tmp 22) (by rfl) (w3.heap.size + 1) _ BH.toArray 126 (by rfl) (by rfl) ((HK5.out.block (w3.heap.size + 1) (by simp) (by omega)).trans HHN.out) HI2.out HS2.out HA2.out ?_
       intro w6 hw6 hk6
       have HW6 := hid hw6
       have HK6 := hid hk6
       clear hw6 hk6))
  obtain ⟨s1, hs1⟩ : ∃ y, y = w3.heap.size := ⟨_, rfl⟩
  have hww : w.heap.size ≤ w3.heap.size := HB3.out.size
  have hall : Below w3.heap.size w3 w6 := by
    have h1 : Below w3.heap.size w3 ((w3.alloc (.cells (bools fun _ => false).toArray 126)).alloc (.cells (bools fun _ => false).toArray 126)) := ((Below.refl _ _).alloc (Nat.le_refl _) _).alloc (by simp) _
    have h2 := h1.trans (HK5.out.below h1.size (Nat.le_refl _))
    exact h2.trans (HK6.out.below h2.size (by omega))
  have HB6 := hid (HB3.out.trans (hall.mono HB3.out.size))
  have HX6 := hid (HX3.out.trans (hall.mono HX3.out.size))
  have HO1 := hid (show OwnB w6 s1 (setL ll) from by
    unfold OwnB
    rw [hs1, HK6.out.block _ (lt_of_heap HW5.out) (by omega), HW5.out, HBL.out])
  have HO2 := hid (show OwnB w6 (s1 + 1) (setL lh) from by
    unfold OwnB
    rw [hs1, HW6.out, HBH.out])
  have hs1w : w.heap.size ≤ s1 := by rw [hs1]; exact hww
  have HC6 := hid (show w6.heap[cb]? = some (.cells #[.map (some ob)] 130 (0, 0)) from (HB6.out.block cb (lt_of_heap HC.out.blk)).trans HC.out.blk)
  have HM6 := hid (ownsMap_below HC.out.out HB6.out)
  have HN6 := hid (ownsMap_below HIN.out.1.own HB6.out)
  have HKP := hid (show ∀ wx, Below w6.heap.size w6 wx → Below w6.heap.size w6 wx ∧ wx.cell? ⟨cb, 0, none⟩ = some (.map (some ob)) ∧ (loadVar 23 ⟨w.heap.size, 0, none⟩).run Tryz.prog wx = .ok (.agg OB) wx ∧ (Instr.lookup 128 (.map (some ob)) (.agg OB) false).run Tryz.prog wx = .ok (.map (some ib)) wx from fun wx h =>
    ⟨h, cell_of_heap ((h.block cb (lt_of_heap HC6.out)).trans HC6.out) 0, HLD.out wx (HX6.out.trans (h.mono HX6.out.size)), HLU.out wx (ownsMap_below HM6.out h)⟩)
  have HSS := hid hs1
  rw [← hs1]
  clear hall hs1 hww hz3 HHN HW5 HW6 HK5 HK6 hZ
  refine wp_region_held_drew (S := (fun wx => Below w6.heap.size w6 wx ∧ wx.cell? ⟨cb, 0, none⟩ = some (.map (some ob)) ∧ (loadVar 23 ⟨w.heap.size, 0, none⟩).run Tryz.prog wx = .ok (.agg OB) wx ∧ (Instr.lookup 128 (.map (some ob)) (.agg OB) false).run Tryz.prog wx = .ok (.map (some ib)) wx)) (by kernel_rfl) (HKP.out _ (bel_drewN (Below.refl _ _) 1)) (fun hHeld => ?_)
  refine wpAnyH_take (i := 0) (oi := { dst := some 23, op := Op.move (Operand.tmp 0), type := 40, pos := "claims.go:44", after := #[], guard := none }) (v := ?_) rfl (by kernel_rfl) (by kernel_rfl) (by kernel_rfl) (fun _ _ _ h => h) (Or.inl ⟨by rfl, ?hy⟩) hHeld ?_
  case hy => (intro w hSw; (try dsimp only at hSw); obtain ⟨_, _, _, _⟩ := hSw; go_simp; all_goals (with_reducible rfl))
  try simp only [Act.put, List.setIfInBounds_toArray, List.set_cons_zero, List.set_cons_succ]
  refine wpAnyH_take (i := 1) (oi := { dst := some 24, op := Op.nilCheck (Operand.tmp 23), type := 0, pos := "claims.go:44", after := #[{ on := 0, ground := Ground.data }], guard := none }) (v := ?_) rfl (by kernel_rfl) (by kernel_rfl) (by kernel_rfl) (fun _ _ _ h => h) (Or.inl ⟨by rfl, ?hy⟩) hHeld ?_
  case hy => (intro w hSw; (try dsimp only at hSw); obtain ⟨_, _, _, _⟩ := hSw; go_simp; all_goals (with_reducible rfl))
  try simp only [Act.put, List.setIfInBounds_toArray, List.set_cons_zero, List.set_cons_succ]
  refine wpAnyH_take (i := 2) (oi := { dst := some 25, op := Op.fieldAddr 130 (Operand.tmp 24) 0, type := 0, pos := "claims.go:44", after := #[{ on := 1, ground := Ground.data }], guard := none }) (v := ?_) rfl (by kernel_rfl) (by kernel_rfl) (by kernel_rfl) (fun _ _ _ h => h) (Or.inl ⟨by rfl, ?hy⟩) hHeld ?_
  case hy => (intro w hSw; (try dsimp only at hSw); obtain ⟨_, _, _, _⟩ := hSw; go_simp; all_goals (with_reducible rfl))
  try simp only [Act.put, List.setIfInBounds_toArray, List.set_cons_zero, List.set_cons_succ]
  refine wpAnyH_take (i := 3) (oi := { dst := some 26, op := Op.load 128 (Operand.tmp 25), type := 128, pos := "claims.go:44", after := #[{ on := 2, ground := Ground.data }], guard := none }) (v := ?_) rfl (by kernel_rfl) (by kernel_rfl) (by kernel_rfl) (fun _ _ _ h => h) (Or.inl ⟨by rfl, ?hy⟩) hHeld ?_
  case hy => (intro w hSw; (try dsimp only at hSw); obtain ⟨_, _, _, _⟩ := hSw; go_simp; all_goals (with_reducible rfl))
  try simp only [Act.put, List.setIfInBounds_toArray, List.set_cons_zero, List.set_cons_succ]
  refine wpAnyH_take (i := 4) (oi := { dst := some 27, op := Op.load 23 (Operand.tmp 7), type := 23, pos := "claims.go:44", after := #[], guard := none }) (v := .agg OB) rfl (by kernel_rfl) (by kernel_rfl) (by kernel_rfl) (fun _ _ _ h => h) (Or.inl ⟨by rfl, ?hy⟩) hHeld ?_
  case hy => (intro w hSw; exact run_load_opP hSw.2.2.1)
  try simp only [Act.put, List.setIfInBounds_toArray, List.set_cons_zero, List.set_cons_succ]
  refine wpAnyH_take (i := 5) (oi := { dst := some 28, op := Op.lookup 128 (Operand.tmp 26) (Operand.tmp 27) false, type := 132, pos := "claims.go:44", after := #[{ on := 3, ground := Ground.data }, { on := 4, ground := Ground.data }], guard := none }) (v := .map (some ib)) rfl (by kernel_rfl) (by kernel_rfl) (by kernel_rfl) (fun _ _ _ h => h) (Or.inl ⟨by rfl, ?hy⟩) hHeld ?_
  case hy => (intro w hSw; exact run_lookup_op hSw.2.2.2)
  try simp only [Act.put, List.setIfInBounds_toArray, List.set_cons_zero, List.set_cons_succ]
  refine wpAnyH_ready (rs := [6]) (by kernel_rfl) (by simp) ?_
  refine AllReadyH.cons (o := { dst := some 29, op := Op.range 132 (Operand.tmp 28), type := 0, pos := "claims.go:44", after := #[{ on := 5, ground := Ground.data }], guard := none }) rfl (fun K hK => ?_) AllReadyH.nil
  refine step_range_own rfl (.tmp 28) _ rfl 3 43 keyedI Tryz.underlying132 (plainElem (H := Unit) Tryz.prog 43) ib ni _ rfl HN6.out.drew ?_
  intro r w7 hr hrg hg7 hsz7
  have HRG7 := hid hrg
  have G7 : Below w6.heap.size w6 w7 := (bel_drewN (Below.refl w6.heap.size w6) 1).grown hg7 (by simp) (fun q hq => by cases hq)
  have hr6 : w6.heap.size ≤ r := by rw [hr]; simp
  clear hr hrg hg7 hsz7
  refine hK.out _ _ (HKP.out _ G7) (fun hHeld => ?_)
  clear hK K hHeld
  try simp only [Act.put, List.setIfInBounds_toArray, List.set_cons_zero, List.set_cons_succ]
  refine wpAnyH_done (by kernel_rfl) ?_ _
  go_wp2_with fail
  have HG7 := hid G7
  have HSUB := hid (show ∀ q : Nat, q < 16 → Maps.has DI (.int .i64 (q : Int)) = false → hit q = false from fun q _ h => HHN0.out q (vw_not_has h))
  clear G7
  go_loopw [15] (fun _ wr => ∃ (left : Lit → Bool) (cnt : Nat), Hid (wr.ranges Tryz.prog 3 (plainElem (H := Unit) Tryz.prog 43) ib r ni DI left cnt) ∧ Hid (Below w6.heap.size w6 wr) ∧ Hid (∀ q : Nat, q < 16 → left (.int .i64 (q : Int)) = false → hit q = false)) (fun _ wr => wr.rangeLeft ib r)
  case atStart => exact ⟨_, _, HRG7, HG7, HSUB⟩
  case round =>
    obtain ⟨left, cnt, HRG, HBW, HT⟩ := hrel
    go_wp2_with (first
      | (at_next; refine wpList_next_ranges_ii _ rfl _ rfl 3 43 .i64 .u64 keyedI Tryz.underlying3 Tryz.underlying43 ib r ni _ _ _ rfl HRG.out ?_ ?_)
      | go_in)
    · intro _ hl0
      have e : R = false := HRN.out (fun q hq => HT.out q hq (hl0 _))
      subst e
      go_wp2
      go_ret
      exact ⟨rfl, HB6.out.trans (HBW.out.mono HB6.out.size)⟩
    · intro x c w8 cnt1 hwx hwc hlx hat hrg1 hlt1 hg1 hs1' hen
      obtain ⟨p, hp, ep⟩ := HIN.out.1.keys _ (Maps.has_true_of_atKey hat)
      simp only [Lit.int.injEq, true_and] at ep
      subst ep
      have HHP := hid (HHS.out p c (vw_at (hat .nil)))
      obtain ⟨hc2, hc3⟩ : 0 ≤ c ∧ c < 18446744073709551616 := by
        have e1 : IntKind.u64.min = 0 := rfl
        have e2 : IntKind.u64.max = 18446744073709551615 := rfl
        simp only [Lit.wf, Bool.and_eq_true, decide_eq_true_eq] at hwc
        omega
      have HCU := hid (isCurrent_any c clock hc2 hc3 hc0 hc1 w8)
      have HRTP := hid (HRT.out p hp)
      have hb8 : Below w6.heap.size w6 w8 := HBW.out.grown hg1 HBW.out.size (fun q hq => by cases hq; exact hr6)
      have HB8 := hid hb8
      have HR1 := hid hrg1
      have HL1 := hid hlt1
      have HLF := hid HRG.out.left_eq
      have HM := hid (show w8.rangeLeft ib r < wr.rangeLeft ib r from by rw [hrg1.left_eq, HRG.out.left_eq]; exact hlt1)
      have HNX := hid (show hit p = false → ∀ q : Nat, q < 16 → (fun z => left z && !z.sameKey (.int .i64 (p : Int))) (.int .i64 (q : Int)) = false → hit q = false from fun hR q hq h => by
        by_cases e : q = p
        · subst e; exact hR
        · refine HT.out q hq ?_
          have e2 : (Lit.int .i64 (q : Int)).sameKey (.int .i64 (p : Int)) = false := Maps.sameKey_ne (fun h => e (by simp only [Lit.int.injEq, true_and] at h; omega))
          simpa [e2] using h)
      have HREL := hid (show hit p = false → ∃ (left : Lit → Bool) (cnt : Nat), Hid (w8.ranges Tryz.prog 3 (plainElem (H := Unit) Tryz.prog 43) ib r ni DI left cnt) ∧ Hid (Below w6.heap.size w6 w8) ∧ Hid (∀ q : Nat, q < 16 → left (.int .i64 (q : Int)) = false → hit q = false) from fun hR =>
        ⟨_, _, hid hrg1, hid hb8, hid (HNX.out hR)⟩)
      have d1 := (HO1.out.below hb8).cell p hp
      have d2 := (HO2.out.below hb8).cell p hp
      have HBT8 := hid (HBT.out p w8 (HB6.out.trans (hb8.mono HB6.out.size)))
      have HRG8 := hid (HRX.out w8 (HX6.out.trans (hb8.mono HX6.out.size)))
      have hp16 : (p : Int) < 16 := by omega
      have hp0 : (0 : Int) ≤ (p : Int) := by omega
      have hh := HHP.out
      have hcc : (decide (c ≤ clock) && decide (clock - c < 12)) = curr c clock := rfl
      rw [hcc] at HCU
      generalize curr c clock = B1 at *
      generalize decide (cmpP obj (p : Int) self < 0) = B4 at *
      generalize setL ll p = e1 at *
      generalize setL lh p = e2 at *
      have HD2 := hid hh
      clear hat hrg1 hlt1 hg1 hs1' hlx hwx hwc hb8 hh hcc HHP hc2 hc3
      go_wp2_with fail
      refine HCU.out.mono ?_
      rintro e w9 ⟨rfl, rfl⟩
      cases B1
      · have HRF := hid (HREL.out (by rw [HD2.out]; rfl))
        go_wp2_with fail
        exact ⟨HRF.out, HM.out⟩
      · cases e1
        · have HRF := hid (HREL.out (by rw [HD2.out]; rfl))
          go_wp2_with fail
          exact ⟨HRF.out, HM.out⟩
        · cases e2
          · go_wp2_with (refine wpList_load_wantP (by rfl) 23 (.tmp 7) (by rfl) w.heap.size 0 (by rfl) (u8s obj) _ HRG8.out Tryz.underlying23 rfl HIF.out ?_)
            refine HBT8.out.mono ?_
            rintro e w10 ⟨rfl, hb10⟩
            have hg10 : w8.grownBy w10 none := ⟨hb10.os, hb10.tape, hb10.output, hb10.size, fun k hk _ => hb10.block k hk⟩
            have hr10 := HR1.out.kept hg10 (by simp) (by simp)
            have HR10 := hid hr10
            have hb6 := HB8.out.trans (hb10.mono HB8.out.size)
            have HB10 := hid hb6
            have HM10 := hid (show w10.rangeLeft ib r < wr.rangeLeft ib r from by rw [hr10.left_eq, HLF.out]; exact HL1.out)
            clear hg10 hr10 hb6 hb10
            cases B4
            · have hR : hit p = false := by rw [HD2.out]; rfl
              have HRF := hid hR
              clear hR
              go_wp2_with fail
              exact ⟨⟨_, _, HR10, HB10, hid (HNX.out HRF.out)⟩, HM10.out⟩
            · have hR : R = true := HRTP.out (by rw [HD2.out]; rfl)
              subst hR
              go_wp2_with fail
              go_ret
              exact ⟨rfl, HB6.out.trans (HB10.out.mono HB6.out.size)⟩
          · have HRF := hid (HREL.out (by rw [HD2.out]; rfl))
            go_wp2_with fail
            exact ⟨HRF.out, HM.out⟩
set_option maxRecDepth 100000 in
set_option maxHeartbeats 16000000 in
theorem Blocked_no (obj : List Nat) (ho : obj.length = 32) (hlt : ∀ x ∈ obj, x < 256) (kl : Lit) (hkl : keyOf Tryz.prog 23 (.agg (u8s obj).toArray) = some kl) (B N cb ob n : Nat) (D : DataW Unit) (J : Jt) (ha : J kl = none)
    (self clock : Int) (hc0 : 0 ≤ clock) (hc1 : clock < 18446744073709551616) (al : Option Addr) (nl cl : Nat) (ll : List Int) (ah : Option Addr) (nh ch : Nat) (lh : List Int) (w : World) (V : Vars w shaRound shaStart) (hc : CM B w N cb ob n D J) (hil : Is w (.slice al nl cl) ll) (hnl : nl ≤ 1000000) (hih : Is w (.slice ah nh ch) lh) (hnh : nh ≤ 1000000) :
    Calls Tryz.prog 39 #[.pointer (some ⟨cb, 0, none⟩), .agg (u8s obj).toArray, .int .i64 self, .int .u64 clock, .slice al nl cl, .slice ah nh ch] w fun e w' => e = .returned (.bool (blkJ (vj J kl) obj self clock ll lh)) ∧ Below w.heap.size w w' := by
  obtain ⟨w1, hw1⟩ : ∃ y, y = w.alloc (.cells (u8s obj).toArray 23) := ⟨_, rfl⟩
  have hb1 : Below w.heap.size w w1 := by rw [hw1]; exact (Below.refl _ _).alloc (Nat.le_refl _) _
  have HR0 := hid (show OwnD w1 w.heap.size obj from by rw [hw1]; exact heap_new _ _)
  have HC := hid hc
  have HB1 := hid hb1
  have HW1 := hid hw1
  have HNL := hid (newPeerSet_any al nl cl ll w1 (hil.belowP hb1) hnl)
  have HNH := hid (fun (wx : World) (h : Below w.heap.size w wx) => newPeerSet_any ah nh ch lh wx (hih.belowP h) hnh)
  have HBT := hid (fun (p : Nat) (wx : World) (h : Below w.heap.size w wx) => Better_any obj ho hlt (p : Int) self wx (V.below h))
  have HIF := hid (show (Tryz.prog.info? 23).map (·.size) = some (u8s obj).length from by rw [show (u8s obj).length = 32 from by simp [u8s, ho]]; kernel_rfl)
  have hvf : blkJ (vj J kl) obj self clock ll lh = false := blkJ_false (fun p _ => by unfold hitB; rw [vj_none ha])
  rw [hvf]
  have hl1 := bools_length (setL ll)
  have hl2 := bools_length (setL lh)
  obtain ⟨BL, hBL⟩ : ∃ y, y = bools (setL ll) := ⟨_, rfl⟩
  obtain ⟨BH, hBH⟩ : ∃ y, y = bools (setL lh) := ⟨_, rfl⟩
  rw [← hBL] at HNL hl1
  rw [← hBH] at HNH hl2
  have HBL := hid hBL
  have HBH := hid hBH
  have HI1 := hid (show (Tryz.prog.info? 126).map (·.size) = some BL.toArray.size from by rw [List.size_toArray, hl1]; kernel_rfl)
  have HI2 := hid (show (Tryz.prog.info? 126).map (·.size) = some BH.toArray.size from by rw [List.size_toArray, hl2]; kernel_rfl)
  have HS1 := hid (show (16 : Nat) = BL.toArray.size from by rw [List.size_toArray, hl1])
  have HS2 := hid (show (16 : Nat) = BH.toArray.size from by rw [List.size_toArray, hl2])
  have HA1 := hid (show BL.toArray.all (·.oneCell') = true from all_oneCell_toArray (by rw [hBL]; exact bools_one _))
  have HA2 := hid (show BH.toArray.all (·.oneCell') = true from all_oneCell_toArray (by rw [hBH]; exact bools_one _))
  obtain ⟨OB, hOB⟩ : ∃ y, y = (u8s obj).toArray := ⟨_, rfl⟩
  have HLD := hid (show ∀ wx : World, Below w1.heap.size w1 wx → (loadVar 23 ⟨w.heap.size, 0, none⟩).run Tryz.prog wx = .ok (.agg OB) wx from fun wx h => by
    rw [hOB]
    exact run_loadVar_mid (P := Tryz.prog) wx w.heap.size 0 23 (u8s obj) _ (range_own ((h.block _ (lt_of_heap HR0.out)).trans HR0.out)) Tryz.underlying23 rfl HIF.out)
  have hlu : ∀ wx : World, wx.ownsMap Tryz.prog 23 mapR ob n D → (Instr.lookup 128 (.map (some ob)) (.agg OB) false).run Tryz.prog wx = .ok (.map none) wx := fun wx hx => by
    obtain ⟨v, ps, h1, h2⟩ := hx.lookup keyedD Tryz.underlying128 (zeroM _) (zd := .nil) (zp := []) rfl (key := .agg OB) (by rw [hOB]; exact hkl)
    rw [Maps.atKey_of_not_has (hc.non kl ha)] at h2
    rw [mapR_nil h2] at h1
    exact h1
  have HLU := hid hlu
  have HRX := hid (fun (wx : World) (h : Below w1.heap.size w1 wx) => range_own ((h.block _ (lt_of_heap HR0.out)).trans HR0.out))
  rw [← hOB] at HW1 ⊢
  clear hb1 hw1 hil hih hvf hl1 hl2 hBL hBH hlu hOB V hc ha
  go_enter Tryz.func39, Tryz.ntmps39
  go_upto_region 1 with fail
  rw [← HW1.out]
  go_wp2_with fail
  refine HNL.out.mono ?_
  rintro e w2 ⟨rfl, hb2⟩
  have HB2 := hid (HB1.out.trans (hb2.mono HB1.out.size))
  have HX2 := hid hb2
  clear hb2
  go_wp2_with fail
  refine (HNH.out w2 HB2.out).mono ?_
  rintro e w3 ⟨rfl, hb3⟩
  have HB3 := hid (HB2.out.trans (hb3.mono HB2.out.size))
  have HX3 := hid (HX2.out.trans (hb3.mono HX2.out.size))
  clear hb3 HNL HNH
  obtain ⟨Z, hZ⟩ : ∃ y : Obj, y = .cells (bools fun _ => false).toArray 126 := ⟨_, rfl⟩
  have hz3 : w1.heap.size ≤ w3.heap.size := HX3.out.size
  have HHN := hid (show ((w3.alloc (.cells (bools fun _ => false).toArray 126)).alloc (.cells (bools fun _ => false).toArray 126)).heap[w3.heap.size + 1]? = some (.cells (bools fun _ => false).toArray 126 (0, 0)) from by
    have h := heap_new (w3.alloc (.cells (bools fun _ => false).toArray 126)) (.cells (bools fun _ => false).toArray 126)
    have e : (w3.alloc (.cells (bools fun _ => false).toArray 126)).heap.size = w3.heap.size + 1 := by simp
    rw [e] at h
    exact h)
  go_wp2_with (first
    | (refine wpList_store_row (by rfl) 126 (.tmp 13) (.tmp 20) (by rfl) w3.heap.size _ BL.toArray 126 (by rfl) (by rfl) (heap_alloc (heap_new _ _) _) HI1.out HS1.out HA1.out ?_
       intro w5 hw5 hk5
       have HW5 := hid hw5
       have HK5 := hid hk5
       clear hw5 hk5)
    | (refine wpList_store_row (by rfl) 126 (.tmp 14) (.tmp 22) (by rfl) (w3.heap.size + 1) _ BH.toArray 126 (by rfl) (by rfl) ((HK5.out.block (w3.heap.size + 1) (by simp) (by omega)).trans HHN.out) HI2.out HS2.out HA2.out ?_
       intro w6 hw6 hk6
       have HW6 := hid hw6
       have HK6 := hid hk6
       clear hw6 hk6))
  obtain ⟨s1, hs1⟩ : ∃ y, y = w3.heap.size := ⟨_, rfl⟩
  have hww : w.heap.size ≤ w3.heap.size := HB3.out.size
  have hall : Below w3.heap.size w3 w6 := by
    have h1 : Below w3.heap.size w3 ((w3.alloc (.cells (bools fun _ => false).toArray 126)).alloc (.cells (bools fun _ => false).toArray 126)) := ((Below.refl _ _).alloc (Nat.le_refl _) _).alloc (by simp) _
    have h2 := h1.trans (HK5.out.below h1.size (Nat.le_refl _))
    exact h2.trans (HK6.out.below h2.size (by omega))
  have HB6 := hid (HB3.out.trans (hall.mono HB3.out.size))
  have HX6 := hid (HX3.out.trans (hall.mono HX3.out.size))
  have HO1 := hid (show OwnB w6 s1 (setL ll) from by
    unfold OwnB
    rw [hs1, HK6.out.block _ (lt_of_heap HW5.out) (by omega), HW5.out, HBL.out])
  have HO2 := hid (show OwnB w6 (s1 + 1) (setL lh) from by
    unfold OwnB
    rw [hs1, HW6.out, HBH.out])
  have hs1w : w.heap.size ≤ s1 := by rw [hs1]; exact hww
  have HC6 := hid (show w6.heap[cb]? = some (.cells #[.map (some ob)] 130 (0, 0)) from (HB6.out.block cb (lt_of_heap HC.out.blk)).trans HC.out.blk)
  have HM6 := hid (ownsMap_below HC.out.out HB6.out)
  have HKP := hid (show ∀ wx, Below w6.heap.size w6 wx → Below w6.heap.size w6 wx ∧ wx.cell? ⟨cb, 0, none⟩ = some (.map (some ob)) ∧ (loadVar 23 ⟨w.heap.size, 0, none⟩).run Tryz.prog wx = .ok (.agg OB) wx ∧ (Instr.lookup 128 (.map (some ob)) (.agg OB) false).run Tryz.prog wx = .ok (.map none) wx from fun wx h =>
    ⟨h, cell_of_heap ((h.block cb (lt_of_heap HC6.out)).trans HC6.out) 0, HLD.out wx (HX6.out.trans (h.mono HX6.out.size)), HLU.out wx (ownsMap_below HM6.out h)⟩)
  have HSS := hid hs1
  rw [← hs1]
  clear hall hs1 hww hz3 HHN HW5 HW6 HK5 HK6 hZ
  refine wp_region_held_drew (S := (fun wx => Below w6.heap.size w6 wx ∧ wx.cell? ⟨cb, 0, none⟩ = some (.map (some ob)) ∧ (loadVar 23 ⟨w.heap.size, 0, none⟩).run Tryz.prog wx = .ok (.agg OB) wx ∧ (Instr.lookup 128 (.map (some ob)) (.agg OB) false).run Tryz.prog wx = .ok (.map none) wx)) (by kernel_rfl) (HKP.out _ (bel_drewN (Below.refl w6.heap.size w6) 1)) (fun hHeld => ?_)
  refine wpAnyH_take (i := 0) (oi := { dst := some 23, op := Op.move (Operand.tmp 0), type := 40, pos := "claims.go:44", after := #[], guard := none }) (v := ?_) rfl (by kernel_rfl) (by kernel_rfl) (by kernel_rfl) (fun _ _ _ h => h) (Or.inl ⟨by rfl, ?hy⟩) hHeld ?_
  case hy => (intro w hSw; (try dsimp only at hSw); obtain ⟨_, _, _, _⟩ := hSw; go_simp; all_goals (with_reducible rfl))
  try simp only [Act.put, List.setIfInBounds_toArray, List.set_cons_zero, List.set_cons_succ]
  refine wpAnyH_take (i := 1) (oi := { dst := some 24, op := Op.nilCheck (Operand.tmp 23), type := 0, pos := "claims.go:44", after := #[{ on := 0, ground := Ground.data }], guard := none }) (v := ?_) rfl (by kernel_rfl) (by kernel_rfl) (by kernel_rfl) (fun _ _ _ h => h) (Or.inl ⟨by rfl, ?hy⟩) hHeld ?_
  case hy => (intro w hSw; (try dsimp only at hSw); obtain ⟨_, _, _, _⟩ := hSw; go_simp; all_goals (with_reducible rfl))
  try simp only [Act.put, List.setIfInBounds_toArray, List.set_cons_zero, List.set_cons_succ]
  refine wpAnyH_take (i := 2) (oi := { dst := some 25, op := Op.fieldAddr 130 (Operand.tmp 24) 0, type := 0, pos := "claims.go:44", after := #[{ on := 1, ground := Ground.data }], guard := none }) (v := ?_) rfl (by kernel_rfl) (by kernel_rfl) (by kernel_rfl) (fun _ _ _ h => h) (Or.inl ⟨by rfl, ?hy⟩) hHeld ?_
  case hy => (intro w hSw; (try dsimp only at hSw); obtain ⟨_, _, _, _⟩ := hSw; go_simp; all_goals (with_reducible rfl))
  try simp only [Act.put, List.setIfInBounds_toArray, List.set_cons_zero, List.set_cons_succ]
  refine wpAnyH_take (i := 3) (oi := { dst := some 26, op := Op.load 128 (Operand.tmp 25), type := 128, pos := "claims.go:44", after := #[{ on := 2, ground := Ground.data }], guard := none }) (v := ?_) rfl (by kernel_rfl) (by kernel_rfl) (by kernel_rfl) (fun _ _ _ h => h) (Or.inl ⟨by rfl, ?hy⟩) hHeld ?_
  case hy => (intro w hSw; (try dsimp only at hSw); obtain ⟨_, _, _, _⟩ := hSw; go_simp; all_goals (with_reducible rfl))
  try simp only [Act.put, List.setIfInBounds_toArray, List.set_cons_zero, List.set_cons_succ]
  refine wpAnyH_take (i := 4) (oi := { dst := some 27, op := Op.load 23 (Operand.tmp 7), type := 23, pos := "claims.go:44", after := #[], guard := none }) (v := .agg OB) rfl (by kernel_rfl) (by kernel_rfl) (by kernel_rfl) (fun _ _ _ h => h) (Or.inl ⟨by rfl, ?hy⟩) hHeld ?_
  case hy => (intro w hSw; exact run_load_opP hSw.2.2.1)
  try simp only [Act.put, List.setIfInBounds_toArray, List.set_cons_zero, List.set_cons_succ]
  refine wpAnyH_take (i := 5) (oi := { dst := some 28, op := Op.lookup 128 (Operand.tmp 26) (Operand.tmp 27) false, type := 132, pos := "claims.go:44", after := #[{ on := 3, ground := Ground.data }, { on := 4, ground := Ground.data }], guard := none }) (v := .map none) rfl (by kernel_rfl) (by kernel_rfl) (by kernel_rfl) (fun _ _ _ h => h) (Or.inl ⟨by rfl, ?hy⟩) hHeld ?_
  case hy => (intro w hSw; exact run_lookup_op hSw.2.2.2)
  try simp only [Act.put, List.setIfInBounds_toArray, List.set_cons_zero, List.set_cons_succ]
  refine wpAnyH_ready (rs := [6]) (by kernel_rfl) (by simp) ?_
  refine AllReadyH.cons (o := { dst := some 29, op := Op.range 132 (Operand.tmp 28), type := 0, pos := "claims.go:44", after := #[{ on := 5, ground := Ground.data }], guard := none }) rfl (fun K hK => ?_) AllReadyH.nil
  refine step_range_nil rfl (.tmp 28) _ rfl 3 43 Tryz.underlying132 rfl ?_
  refine hK.out _ _ (HKP.out _ ((bel_drewN (Below.refl w6.heap.size w6) 1).alloc (by simp) _)) (fun hHeld => ?_)
  clear hK K hHeld
  try simp only [Act.put, List.setIfInBounds_toArray, List.set_cons_zero, List.set_cons_succ]
  refine wpAnyH_done (by kernel_rfl) ?_ _
  have hnx : ∀ ty, (Instr.next (.pointer (some ⟨w6.drew.heap.size, 0, none⟩)) false ty).run Tryz.prog (w6.drew.alloc (.mapIter none 0 #[] 0)) = .ok (.tuple #[.bool false]) (w6.drew.alloc (.mapIter none 0 #[] 0)) := fun ty => run_next_nilMap w6.drew ty 0 0 #[]
  obtain ⟨wz, hwz⟩ : ∃ y, y = w6.drew.alloc (.mapIter none 0 #[] 0) := ⟨_, rfl⟩
  have HBZ := hid (show Below w6.heap.size w6 wz from by rw [hwz]; exact (bel_drewN (Below.refl w6.heap.size w6) 1).alloc (by simp) _)
  rw [← hwz] at hnx ⊢
  obtain ⟨rr, hrr⟩ : ∃ y, y = w6.drew.heap.size := ⟨_, rfl⟩
  rw [← hrr] at hnx ⊢
  clear hwz hrr
  go_wp2_with fail
  refine wp_loop_rounds 1 ?_
  rw [rounds_succ]
  go_wp2
  go_ret
  exact ⟨rfl, HB6.out.trans (HBZ.out.mono HB6.out.size)⟩
end Go.Proofs.YtjgiiciniplbnaaGreatDoor
