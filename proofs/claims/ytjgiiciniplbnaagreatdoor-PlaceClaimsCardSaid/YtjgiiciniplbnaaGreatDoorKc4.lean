/-
  The reference's Note. · The reference's Claimants. · The reference's Blocked. · The mathematics of PlaceMinimal: one peer leaves the list. · PlaceClaims: the maps and the list say one thing. · The structs that the laws of place take as arguments, opened. · The script of PlaceClaims that came in.
-/
import Derived.Test.YtjgiiciniplbnaaGreatDoorKc3
import Derived.Test.YtjgiiciniplbnaaGreatDoorKa9
import Derived.Test.YtjgiiciniplbnaaGreatDoorKa6
import Derived.Test.YtjgiiciniplbnaaGreatDoorKa7
import Derived.Test.YtjgiiciniplbnaaGreatDoorKc1
import Derived.Deep.Slices
namespace Go.Proofs.YtjgiiciniplbnaaGreatDoor
open Go Go.RowKit Go.Lib Go.Sort
set_option linter.unusedVariables false

theorem built_cl (s : List Nat) (h : s.length = 32) (p t : Int) : Tryz.prog.built 134 [(0, .agg (u8s s).toArray), (1, .int .i64 p), (2, .int .u64 t)] = some (u8s s ++ ([.int .i64 p, .int .u64 t] : List Value)).toArray := by
  obtain ⟨x0, x1, x2, x3, x4, x5, x6, x7, x8, x9, x10, x11, x12, x13, x14, x15, x16, x17, x18, x19, x20, x21, x22, x23, x24, x25, x26, x27, x28, x29, x30, x31, rfl⟩ := list32 s h
  kernel_rfl
theorem map_threeO (x0 x1 x2 : Operand) (f : Operand → Value) : ((#[(0, x0), (1, x1), (2, x2)] : Array (Nat × Operand)).map fun (i, x) => (i, f x)).toList = [(0, f x0), (1, f x1), (2, f x2)] := by simp
theorem wpList_build3 {P : Program} {ops : Array Oper} {rest : List Oper} {o : Oper} {a : Act} {w : World} {Q : Exit → Act → World → Prop} (hgd : o.guard = none) (t : TypeId) (x0 x1 x2 : Operand) (ho : o.op = .build t #[(0, x0), (1, x1), (2, x2)]) {v0 v1 v2 : Value} (h0 : a.eval x0 = v0) (h1 : a.eval x1 = v1) (h2 : a.eval x2 = v2)
    {cells : Array Value} (hp : P.built t [(0, v0), (1, v1), (2, v2)] = some cells) (h : wpList P ops Q rest (a.put o.dst (.agg cells)) w) : wpList P ops Q (o :: rest) a w :=
  wpList_plain hgd fun K hK => by
    have hv := map_threeO x0 x1 x2 a.eval
    rw [h0, h1, h2] at hv
    rw [← hv] at hp
    have hr : (execOp a.eval o).run P w = .ok (.value (.agg cells)) w := by
      unfold execOp
      simp only [ho]
      have h := run_build (P := P) w t _ cells hp
      simp only [Sem.run_bind, h, Result.andThen_ok, Sem.run_pure]
    unfold Oper.wp
    rw [hr]
    exact hK _ _ h
/-- the claims that a Note leaves -/
def fNote (obj : List Nat) (p : Nat) : Clm → Bool := fun c => !(decide (c.od = obj) && decide (c.p = p))
set_option maxRecDepth 100000 in
set_option maxHeartbeats 8000000 in
theorem rNote_bad (v : Value) (OB : Array Value) (x : Int) (hx : ¬ (0 ≤ x ∧ x < 16)) (u : Value) (w : World) :
    Calls Tryz.prog 34 #[v, .agg OB, .int .i64 x, u] w fun e w' => e = .returned v ∧ Below w.heap.size w w' := by
  have HB1 := hid (show Below w.heap.size w (w.alloc (.cells OB 23)) from (Below.refl _ _).alloc (Nat.le_refl _) _)
  by_cases h0 : x < 0
  · clear hx
    go_enter Tryz.func34, Tryz.ntmps34
    go_wp2_with fail
    go_ret
    exact ⟨rfl, HB1.out⟩
  · have h1 : (15 : Int) < x := by omega
    clear hx
    go_enter Tryz.func34, Tryz.ntmps34
    go_wp2_with fail
    go_ret
    exact ⟨rfl, HB1.out⟩
set_option maxRecDepth 100000 in
set_option maxHeartbeats 8000000 in
theorem rNote_ok (R : List Clm) (hl : R.length ≤ 100000) (a : Option Addr) (c : Nat) (obj : List Nat) (ho : obj.length = 32) (hlt : ∀ y ∈ obj, y < 256) (p : Nat) (hp : p < 16) (t : Int) (ht0 : 0 ≤ t) (ht1 : t < 18446744073709551616) (w : World) (hR : Rw w (.slice a R.length c) R) :
    Calls Tryz.prog 34 #[.slice a R.length c, .agg (u8s obj).toArray, .int .i64 (p : Int), .int .u64 t] w fun e w' => ∃ v, e = .returned v ∧ Rw w' v (R.filter (fNote obj p) ++ [⟨obj, p, t⟩]) ∧ Below w.heap.size w w' := by
  obtain ⟨w1, hw1⟩ : ∃ y, y = w.alloc (.cells (u8s obj).toArray 23) := ⟨_, rfl⟩
  have hb1 : Below w.heap.size w w1 := by rw [hw1]; exact (Below.refl _ _).alloc (Nat.le_refl _) _
  have HR0 := hid (show OwnD w1 w.heap.size obj from by rw [hw1]; exact heap_new _ _)
  obtain ⟨f, hf⟩ : ∃ y : Clm → Bool, y = fNote obj p := ⟨_, rfl⟩
  have HF := hid hf
  have HR := hid (hR.below hb1)
  have HOK := hid hR.2
  have HB1 := hid hb1
  have HW1 := hid hw1
  have HO := hid ho
  have HNW := hid (show Clm.Ok ⟨obj, p, t⟩ from ⟨ho, hlt, hp, ht0, ht1⟩)
  have HID := hid (infoD obj ho)
  have HBT := hid (built_cl obj ho (p : Int) t)
  obtain ⟨n, hn⟩ : ∃ y, y = R.length := ⟨_, rfl⟩
  have HN := hid hn
  obtain ⟨bx, hbx⟩ : ∃ y, y = w.heap.size := ⟨_, rfl⟩
  rw [← hbx] at HR0
  rw [← hf]
  rw [← hn] at hl ⊢
  rw [← hn] at HR
  obtain ⟨OB, hOB⟩ : ∃ y, y = (u8s obj).toArray := ⟨_, rfl⟩
  rw [← hOB] at HW1 HBT ⊢
  have HOB := hid hOB
  have HBX := hid hbx
  have hp0 : ¬ (p : Int) < 0 := by omega
  have hp1 : ¬ (15 : Int) < (p : Int) := by omega
  have HLB := hid (show ∀ wx : World, Below w1.heap.size w1 wx → (loadVar 23 ⟨bx, 0, none⟩).run Tryz.prog wx = .ok (.agg OB) wx from fun wx h => by
    rw [HOB.out]
    exact run_loadVar_mid (P := Tryz.prog) wx bx 0 23 (u8s obj) _ (range_own ((h.block _ (lt_of_heap HR0.out)).trans HR0.out)) Tryz.underlying23 rfl HID.out)
  clear hf hR hn hw1 hb1 hOB
  go_enter Tryz.func34, Tryz.ntmps34
  go_upto_region 1 with fail
  rw [← HW1.out, ← hbx]
  clear hbx
  go_wp2_with fail
  go_loopw [9, 10] (fun av iv wx => ∃ i : Nat, i ≤ n ∧ iv = .int .i64 i ∧ Hid (wx.ownsRow w1.heap.size 134 34 av ((R.take i).filter f).length (flatC ((R.take i).filter f))) ∧ Hid (Below w1.heap.size w1 wx)) (fun _ iv _ => n - (intOf iv).toNat)
  case atStart => exact ⟨0, by omega, rfl, hid ⟨rfl, .inr ⟨w1.heap.size, 0, #[], rfl, Nat.le_refl _, heap_new _ _, Nat.le_refl _, Nat.zero_le _, rfl, rfl⟩⟩, hid ((Below.refl _ _).alloc (Nat.le_refl _) _)⟩
  case round =>
  obtain ⟨i, hi, rfl, HOW, HBR⟩ := hrel
  have HLE := hid (show ((R.take i).filter f).length ≤ 100000 from by have := filter_len (R := R) f i; have := HN.out; omega)
  rcases Nat.lt_or_ge i n with hin | hin
  · as_aux_lemma =>
    have hin' : (i : Int) < (n : Int) := by omega
    have hi0 : (0 : Int) ≤ (i : Int) := by omega
    have hiR : i < R.length := by rw [← HN.out]; exact hin
    obtain ⟨g, rfl, hrg, hgl⟩ := (HR.out.below HBR.out).at_ i hiR
    obtain ⟨q, hq⟩ : ∃ y, y = R[i] := ⟨_, rfl⟩
    rw [← hq] at hrg
    have HQ := hid hq
    have HQO := hid (show q.Ok from by rw [hq]; exact HOK.out _ (List.getElem_mem hiR))
    have HIF := hid (infoCm q HQO.out)
    have HTK := hid (take_snoc R i hiR)
    have HGL := hid hgl
    obtain ⟨G, hG⟩ : ∃ y, y = i * 34 := ⟨_, rfl⟩
    rw [← hG] at hrg
    have HRG := hid hrg
    have hG2 : i * 34 = G := hG.symm
    obtain ⟨OA, hOA⟩ : ∃ y, y = (u8s q.od).toArray := ⟨_, rfl⟩
    have HOA := hid hOA
    have HIQ := hid (infoD q.od HQO.out.ho)
    obtain ⟨wq, rfl⟩ : ∃ y : World, y = wr := ⟨_, rfl⟩
    have HRGB := hid (show ∀ wx : World, Below wq.heap.size wq wx → wx.rangeAt g G (rcl q) from fun wx h j u hj => (h.cell (World.block_lt_of_cell? _ _ (HRG.out j u hj))).trans (HRG.out j u hj))
    have HKS := hid (show ∀ wx : World, Below wq.heap.size wq wx → (loadVar 23 ⟨g, G, none⟩).run Tryz.prog wx = .ok (.agg OA) wx ∧ (loadVar 23 ⟨bx, 0, none⟩).run Tryz.prog wx = .ok (.agg OB) wx ∧ wx.cell? ⟨g, G + 32, none⟩ = some (.int .i64 (q.p : Int)) from fun wx h => by
      refine ⟨?_, HLB.out wx (HBR.out.trans (h.mono HBR.out.size)), HRGB.out wx h 32 _ (rcl_32 q HQO.out).1⟩
      rw [HOA.out]
      exact run_loadVar_mid (P := Tryz.prog) wx g G 23 (u8s q.od) _ (rangeAt_dig (HRGB.out wx h) HQO.out) Tryz.underlying23 rfl HIQ.out)
    have heq := fun wx => eql_any q.od obj HQO.out.ho HO.out wx
    rw [← hOA, ← HOB.out] at heq
    clear hrg hq hG hgl hOA
    go_upto_region 7 with fail
    go_cut [40] (fun v wx => v = .bool (f q) ∧ Hid (Below wq.heap.size wq wx))
    case first =>
      by_cases hod : q.od = obj
      · have e1 := heq
        simp only [hod, decide_true] at e1
        by_cases hqp : q.p = p
        · have HFQ := hid (show f q = false from by rw [HF.out]; unfold fNote; simp [hod, hqp])
          have n1 : ((q.p : Int) != (p : Int)) = false := by simp [hqp]
          clear heq hqp hod
          refine wp_region_held_drew (S := (fun wx : World => (loadVar 23 ⟨g, G, none⟩).run Tryz.prog wx = .ok (.agg OA) wx ∧ (loadVar 23 ⟨bx, 0, none⟩).run Tryz.prog wx = .ok (.agg OB) wx ∧ wx.cell? ⟨g, G + 32, none⟩ = some (.int .i64 (q.p : Int)))) (by kernel_rfl) (HKS.out _ (bel_drewN (Below.refl wq.heap.size wq) 1)) (fun hHeld => ?_)
          refine wpAnyH_take (i := 0) (oi := { dst := some 25, op := Op.move (Operand.tmp 0), type := 42, pos := "ref.go:126", after := #[], guard := none }) (v := ?_) rfl (by kernel_rfl) (by kernel_rfl) (by kernel_rfl) (fun _ _ _ h => h) (Or.inl ⟨by rfl, ?hy⟩) hHeld ?_
          case hy => (intro w hSw; (try dsimp only at hSw); obtain ⟨_, _, _⟩ := hSw; go_simp; all_goals (with_reducible rfl))
          try simp only [Act.put, List.setIfInBounds_toArray, List.set_cons_zero, List.set_cons_succ]
          refine wpAnyH_take (i := 1) (oi := { dst := some 26, op := Op.move (Operand.tmp 10), type := 3, pos := "ref.go:126", after := #[], guard := none }) (v := ?_) rfl (by kernel_rfl) (by kernel_rfl) (by kernel_rfl) (fun _ _ _ h => h) (Or.inl ⟨by rfl, ?hy⟩) hHeld ?_
          case hy => (intro w hSw; (try dsimp only at hSw); obtain ⟨_, _, _⟩ := hSw; go_simp; all_goals (with_reducible rfl))
          try simp only [Act.put, List.setIfInBounds_toArray, List.set_cons_zero, List.set_cons_succ]
          refine wpAnyH_take (i := 2) (oi := { dst := some 27, op := Op.indexAddr 42 (Operand.tmp 25) (Operand.tmp 26), type := 0, pos := "ref.go:126", after := #[{ on := 0, ground := Ground.data }, { on := 1, ground := Ground.data }], guard := none }) (v := ?_) rfl (by kernel_rfl) (by kernel_rfl) (by kernel_rfl) (fun _ _ _ h => h) (Or.inl ⟨by rfl, ?hy⟩) hHeld ?_
          case hy => (intro w hSw; (try dsimp only at hSw); obtain ⟨_, _, _⟩ := hSw; go_simp; all_goals (with_reducible rfl))
          try simp only [Act.put, List.setIfInBounds_toArray, List.set_cons_zero, List.set_cons_succ]
          refine wpAnyH_take (i := 3) (oi := { dst := some 28, op := Op.fieldAddr 134 (Operand.tmp 27) 0, type := 0, pos := "ref.go:126", after := #[{ on := 2, ground := Ground.data }], guard := none }) (v := ?_) rfl (by kernel_rfl) (by kernel_rfl) (by kernel_rfl) (fun _ _ _ h => h) (Or.inl ⟨by rfl, ?hy⟩) hHeld ?_
          case hy => (intro w hSw; (try dsimp only at hSw); obtain ⟨_, _, _⟩ := hSw; go_simp; all_goals (with_reducible rfl))
          try simp only [Act.put, List.setIfInBounds_toArray, List.set_cons_zero, List.set_cons_succ]
          refine wpAnyH_take (i := 4) (oi := { dst := some 29, op := Op.load 23 (Operand.tmp 28), type := 23, pos := "ref.go:126", after := #[{ on := 3, ground := Ground.data }], guard := none }) (v := .agg OA) rfl (by kernel_rfl) (by kernel_rfl) (by kernel_rfl) (fun _ _ _ h => h) (Or.inl ⟨by rfl, ?hy⟩) hHeld ?_
          case hy => (intro w hSw; exact run_load_opP hSw.1)
          try simp only [Act.put, List.setIfInBounds_toArray, List.set_cons_zero, List.set_cons_succ]
          refine wpAnyH_take (i := 5) (oi := { dst := some 30, op := Op.load 23 (Operand.tmp 5), type := 23, pos := "ref.go:126", after := #[], guard := none }) (v := .agg OB) rfl (by kernel_rfl) (by kernel_rfl) (by kernel_rfl) (fun _ _ _ h => h) (Or.inl ⟨by rfl, ?hy⟩) hHeld ?_
          case hy => (intro w hSw; exact run_load_opP hSw.2.1)
          try simp only [Act.put, List.setIfInBounds_toArray, List.set_cons_zero, List.set_cons_succ]
          refine wpAnyH_take (i := 6) (oi := { dst := some 31, op := Op.binOp BinOp.neq 23 (Operand.tmp 29) (Operand.tmp 30) 23, type := 4, pos := "ref.go:126", after := #[{ on := 4, ground := Ground.data }, { on := 5, ground := Ground.data }], guard := none }) (v := ?_) rfl (by kernel_rfl) (by kernel_rfl) (by kernel_rfl) (fun _ _ _ h => h) (Or.inl ⟨by rfl, ?hy⟩) hHeld ?_
          case hy => (intro w hSw; (try dsimp only at hSw); obtain ⟨_, _, _⟩ := hSw; go_simp; all_goals (with_reducible rfl))
          try simp only [Act.put, List.setIfInBounds_toArray, List.set_cons_zero, List.set_cons_succ]
          refine wpAnyH_take (i := 7) (oi := { dst := some 32, op := Op.move (Operand.tmp 31), type := 4, pos := "ref.go:126", after := #[{ on := 6, ground := Ground.data }], guard := none }) (v := ?_) rfl (by kernel_rfl) (by kernel_rfl) (by kernel_rfl) (fun _ _ _ h => h) (Or.inl ⟨by rfl, ?hy⟩) hHeld ?_
          case hy => (intro w hSw; (try dsimp only at hSw); obtain ⟨_, _, _⟩ := hSw; go_simp; all_goals (with_reducible rfl))
          try simp only [Act.put, List.setIfInBounds_toArray, List.set_cons_zero, List.set_cons_succ]
          refine wpAnyH_take (i := 8) (oi := { dst := some 33, op := Op.move (Operand.tmp 0), type := 42, pos := "ref.go:126", after := #[{ on := 7, ground := Ground.guard }], guard := some (7, false) }) (v := ?_) rfl (by kernel_rfl) (by kernel_rfl) (by kernel_rfl) (fun _ _ _ h => h) (Or.inl ⟨by rfl, ?hy⟩) hHeld ?_
          case hy => (intro w hSw; (try dsimp only at hSw); obtain ⟨_, _, _⟩ := hSw; go_simp; all_goals (with_reducible rfl))
          try simp only [Act.put, List.setIfInBounds_toArray, List.set_cons_zero, List.set_cons_succ]
          refine wpAnyH_take (i := 9) (oi := { dst := some 34, op := Op.move (Operand.tmp 10), type := 3, pos := "ref.go:126", after := #[{ on := 7, ground := Ground.guard }], guard := some (7, false) }) (v := ?_) rfl (by kernel_rfl) (by kernel_rfl) (by kernel_rfl) (fun _ _ _ h => h) (Or.inl ⟨by rfl, ?hy⟩) hHeld ?_
          case hy => (intro w hSw; (try dsimp only at hSw); obtain ⟨_, _, _⟩ := hSw; go_simp; all_goals (with_reducible rfl))
          try simp only [Act.put, List.setIfInBounds_toArray, List.set_cons_zero, List.set_cons_succ]
          refine wpAnyH_take (i := 10) (oi := { dst := some 35, op := Op.indexAddr 42 (Operand.tmp 33) (Operand.tmp 34), type := 0, pos := "ref.go:126", after := #[{ on := 8, ground := Ground.data }, { on := 9, ground := Ground.data }, { on := 7, ground := Ground.guard }], guard := some (7, false) }) (v := ?_) rfl (by kernel_rfl) (by kernel_rfl) (by kernel_rfl) (fun _ _ _ h => h) (Or.inl ⟨by rfl, ?hy⟩) hHeld ?_
          case hy => (intro w hSw; (try dsimp only at hSw); obtain ⟨_, _, _⟩ := hSw; go_simp; all_goals (with_reducible rfl))
          try simp only [Act.put, List.setIfInBounds_toArray, List.set_cons_zero, List.set_cons_succ]
          refine wpAnyH_take (i := 11) (oi := { dst := some 36, op := Op.fieldAddr 134 (Operand.tmp 35) 1, type := 0, pos := "ref.go:126", after := #[{ on := 10, ground := Ground.data }, { on := 7, ground := Ground.guard }], guard := some (7, false) }) (v := ?_) rfl (by kernel_rfl) (by kernel_rfl) (by kernel_rfl) (fun _ _ _ h => h) (Or.inl ⟨by rfl, ?hy⟩) hHeld ?_
          case hy => (intro w hSw; (try dsimp only at hSw); obtain ⟨_, _, _⟩ := hSw; go_simp; all_goals (with_reducible rfl))
          try simp only [Act.put, List.setIfInBounds_toArray, List.set_cons_zero, List.set_cons_succ]
          refine wpAnyH_take (i := 12) (oi := { dst := some 37, op := Op.load 3 (Operand.tmp 36), type := 3, pos := "ref.go:126", after := #[{ on := 11, ground := Ground.data }, { on := 7, ground := Ground.guard }], guard := some (7, false) }) (v := ?_) rfl (by kernel_rfl) (by kernel_rfl) (by kernel_rfl) (fun _ _ _ h => h) (Or.inl ⟨by rfl, ?hy⟩) hHeld ?_
          case hy => (intro w hSw; (try dsimp only at hSw); obtain ⟨_, _, _⟩ := hSw; go_simp; all_goals (with_reducible rfl))
          try simp only [Act.put, List.setIfInBounds_toArray, List.set_cons_zero, List.set_cons_succ]
          refine wpAnyH_take (i := 13) (oi := { dst := some 38, op := Op.move (Operand.tmp 2), type := 3, pos := "ref.go:126", after := #[{ on := 7, ground := Ground.guard }], guard := some (7, false) }) (v := ?_) rfl (by kernel_rfl) (by kernel_rfl) (by kernel_rfl) (fun _ _ _ h => h) (Or.inl ⟨by rfl, ?hy⟩) hHeld ?_
          case hy => (intro w hSw; (try dsimp only at hSw); obtain ⟨_, _, _⟩ := hSw; go_simp; all_goals (with_reducible rfl))
          try simp only [Act.put, List.setIfInBounds_toArray, List.set_cons_zero, List.set_cons_succ]
          refine wpAnyH_take (i := 14) (oi := { dst := some 39, op := Op.binOp BinOp.neq 3 (Operand.tmp 37) (Operand.tmp 38) 3, type := 4, pos := "ref.go:126", after := #[{ on := 12, ground := Ground.data }, { on := 13, ground := Ground.data }, { on := 7, ground := Ground.guard }], guard := some (7, false) }) (v := ?_) rfl (by kernel_rfl) (by kernel_rfl) (by kernel_rfl) (fun _ _ _ h => h) (Or.inl ⟨by rfl, ?hy⟩) hHeld ?_
          case hy => (intro w hSw; (try dsimp only at hSw); obtain ⟨_, _, _⟩ := hSw; go_simp; all_goals (with_reducible rfl))
          try simp only [Act.put, List.setIfInBounds_toArray, List.set_cons_zero, List.set_cons_succ]
          refine wpAnyH_take (i := 15) (oi := { dst := some 40, op := Op.pick (Operand.tmp 32) (Operand.const (Value.bool true)) (Operand.tmp 39), type := 4, pos := "ref.go:126", after := #[{ on := 7, ground := Ground.data }, { on := 14, ground := Ground.data }], guard := none }) (v := ?_) rfl (by kernel_rfl) (by kernel_rfl) (by kernel_rfl) (fun _ _ _ h => h) (Or.inl ⟨by rfl, ?hy⟩) hHeld ?_
          case hy => (intro w hSw; (try dsimp only at hSw); obtain ⟨_, _, _⟩ := hSw; go_simp; all_goals (with_reducible rfl))
          try simp only [Act.put, List.setIfInBounds_toArray, List.set_cons_zero, List.set_cons_succ]
          refine wpAnyH_done (by kernel_rfl) ?_ _
          go_wp2
          go_meet
          exact ⟨by rw [HFQ.out], hid (bel_drewN (Below.refl wq.heap.size wq) 1)⟩
        · have HFQ := hid (show f q = true from by rw [HF.out]; unfold fNote; simp [hqp])
          have n1 : ((q.p : Int) != (p : Int)) = true := by simp; omega
          clear heq hqp hod
          refine wp_region_held_drew (S := (fun wx : World => (loadVar 23 ⟨g, G, none⟩).run Tryz.prog wx = .ok (.agg OA) wx ∧ (loadVar 23 ⟨bx, 0, none⟩).run Tryz.prog wx = .ok (.agg OB) wx ∧ wx.cell? ⟨g, G + 32, none⟩ = some (.int .i64 (q.p : Int)))) (by kernel_rfl) (HKS.out _ (bel_drewN (Below.refl wq.heap.size wq) 1)) (fun hHeld => ?_)
          refine wpAnyH_take (i := 0) (oi := { dst := some 25, op := Op.move (Operand.tmp 0), type := 42, pos := "ref.go:126", after := #[], guard := none }) (v := ?_) rfl (by kernel_rfl) (by kernel_rfl) (by kernel_rfl) (fun _ _ _ h => h) (Or.inl ⟨by rfl, ?hy⟩) hHeld ?_
          case hy => (intro w hSw; (try dsimp only at hSw); obtain ⟨_, _, _⟩ := hSw; go_simp; all_goals (with_reducible rfl))
          try simp only [Act.put, List.setIfInBounds_toArray, List.set_cons_zero, List.set_cons_succ]
          refine wpAnyH_take (i := 1) (oi := { dst := some 26, op := Op.move (Operand.tmp 10), type := 3, pos := "ref.go:126", after := #[], guard := none }) (v := ?_) rfl (by kernel_rfl) (by kernel_rfl) (by kernel_rfl) (fun _ _ _ h => h) (Or.inl ⟨by rfl, ?hy⟩) hHeld ?_
          case hy => (intro w hSw; (try dsimp only at hSw); obtain ⟨_, _, _⟩ := hSw; go_simp; all_goals (with_reducible rfl))
          try simp only [Act.put, List.setIfInBounds_toArray, List.set_cons_zero, List.set_cons_succ]
          refine wpAnyH_take (i := 2) (oi := { dst := some 27, op := Op.indexAddr 42 (Operand.tmp 25) (Operand.tmp 26), type := 0, pos := "ref.go:126", after := #[{ on := 0, ground := Ground.data }, { on := 1, ground := Ground.data }], guard := none }) (v := ?_) rfl (by kernel_rfl) (by kernel_rfl) (by kernel_rfl) (fun _ _ _ h => h) (Or.inl ⟨by rfl, ?hy⟩) hHeld ?_
          case hy => (intro w hSw; (try dsimp only at hSw); obtain ⟨_, _, _⟩ := hSw; go_simp; all_goals (with_reducible rfl))
          try simp only [Act.put, List.setIfInBounds_toArray, List.set_cons_zero, List.set_cons_succ]
          refine wpAnyH_take (i := 3) (oi := { dst := some 28, op := Op.fieldAddr 134 (Operand.tmp 27) 0, type := 0, pos := "ref.go:126", after := #[{ on := 2, ground := Ground.data }], guard := none }) (v := ?_) rfl (by kernel_rfl) (by kernel_rfl) (by kernel_rfl) (fun _ _ _ h => h) (Or.inl ⟨by rfl, ?hy⟩) hHeld ?_
          case hy => (intro w hSw; (try dsimp only at hSw); obtain ⟨_, _, _⟩ := hSw; go_simp; all_goals (with_reducible rfl))
          try simp only [Act.put, List.setIfInBounds_toArray, List.set_cons_zero, List.set_cons_succ]
          refine wpAnyH_take (i := 4) (oi := { dst := some 29, op := Op.load 23 (Operand.tmp 28), type := 23, pos := "ref.go:126", after := #[{ on := 3, ground := Ground.data }], guard := none }) (v := .agg OA) rfl (by kernel_rfl) (by kernel_rfl) (by kernel_rfl) (fun _ _ _ h => h) (Or.inl ⟨by rfl, ?hy⟩) hHeld ?_
          case hy => (intro w hSw; exact run_load_opP hSw.1)
          try simp only [Act.put, List.setIfInBounds_toArray, List.set_cons_zero, List.set_cons_succ]
          refine wpAnyH_take (i := 5) (oi := { dst := some 30, op := Op.load 23 (Operand.tmp 5), type := 23, pos := "ref.go:126", after := #[], guard := none }) (v := .agg OB) rfl (by kernel_rfl) (by kernel_rfl) (by kernel_rfl) (fun _ _ _ h => h) (Or.inl ⟨by rfl, ?hy⟩) hHeld ?_
          case hy => (intro w hSw; exact run_load_opP hSw.2.1)
          try simp only [Act.put, List.setIfInBounds_toArray, List.set_cons_zero, List.set_cons_succ]
          refine wpAnyH_take (i := 6) (oi := { dst := some 31, op := Op.binOp BinOp.neq 23 (Operand.tmp 29) (Operand.tmp 30) 23, type := 4, pos := "ref.go:126", after := #[{ on := 4, ground := Ground.data }, { on := 5, ground := Ground.data }], guard := none }) (v := ?_) rfl (by kernel_rfl) (by kernel_rfl) (by kernel_rfl) (fun _ _ _ h => h) (Or.inl ⟨by rfl, ?hy⟩) hHeld ?_
          case hy => (intro w hSw; (try dsimp only at hSw); obtain ⟨_, _, _⟩ := hSw; go_simp; all_goals (with_reducible rfl))
          try simp only [Act.put, List.setIfInBounds_toArray, List.set_cons_zero, List.set_cons_succ]
          refine wpAnyH_take (i := 7) (oi := { dst := some 32, op := Op.move (Operand.tmp 31), type := 4, pos := "ref.go:126", after := #[{ on := 6, ground := Ground.data }], guard := none }) (v := ?_) rfl (by kernel_rfl) (by kernel_rfl) (by kernel_rfl) (fun _ _ _ h => h) (Or.inl ⟨by rfl, ?hy⟩) hHeld ?_
          case hy => (intro w hSw; (try dsimp only at hSw); obtain ⟨_, _, _⟩ := hSw; go_simp; all_goals (with_reducible rfl))
          try simp only [Act.put, List.setIfInBounds_toArray, List.set_cons_zero, List.set_cons_succ]
          refine wpAnyH_take (i := 8) (oi := { dst := some 33, op := Op.move (Operand.tmp 0), type := 42, pos := "ref.go:126", after := #[{ on := 7, ground := Ground.guard }], guard := some (7, false) }) (v := ?_) rfl (by kernel_rfl) (by kernel_rfl) (by kernel_rfl) (fun _ _ _ h => h) (Or.inl ⟨by rfl, ?hy⟩) hHeld ?_
          case hy => (intro w hSw; (try dsimp only at hSw); obtain ⟨_, _, _⟩ := hSw; go_simp; all_goals (with_reducible rfl))
          try simp only [Act.put, List.setIfInBounds_toArray, List.set_cons_zero, List.set_cons_succ]
          refine wpAnyH_take (i := 9) (oi := { dst := some 34, op := Op.move (Operand.tmp 10), type := 3, pos := "ref.go:126", after := #[{ on := 7, ground := Ground.guard }], guard := some (7, false) }) (v := ?_) rfl (by kernel_rfl) (by kernel_rfl) (by kernel_rfl) (fun _ _ _ h => h) (Or.inl ⟨by rfl, ?hy⟩) hHeld ?_
          case hy => (intro w hSw; (try dsimp only at hSw); obtain ⟨_, _, _⟩ := hSw; go_simp; all_goals (with_reducible rfl))
          try simp only [Act.put, List.setIfInBounds_toArray, List.set_cons_zero, List.set_cons_succ]
          refine wpAnyH_take (i := 10) (oi := { dst := some 35, op := Op.indexAddr 42 (Operand.tmp 33) (Operand.tmp 34), type := 0, pos := "ref.go:126", after := #[{ on := 8, ground := Ground.data }, { on := 9, ground := Ground.data }, { on := 7, ground := Ground.guard }], guard := some (7, false) }) (v := ?_) rfl (by kernel_rfl) (by kernel_rfl) (by kernel_rfl) (fun _ _ _ h => h) (Or.inl ⟨by rfl, ?hy⟩) hHeld ?_
          case hy => (intro w hSw; (try dsimp only at hSw); obtain ⟨_, _, _⟩ := hSw; go_simp; all_goals (with_reducible rfl))
          try simp only [Act.put, List.setIfInBounds_toArray, List.set_cons_zero, List.set_cons_succ]
          refine wpAnyH_take (i := 11) (oi := { dst := some 36, op := Op.fieldAddr 134 (Operand.tmp 35) 1, type := 0, pos := "ref.go:126", after := #[{ on := 10, ground := Ground.data }, { on := 7, ground := Ground.guard }], guard := some (7, false) }) (v := ?_) rfl (by kernel_rfl) (by kernel_rfl) (by kernel_rfl) (fun _ _ _ h => h) (Or.inl ⟨by rfl, ?hy⟩) hHeld ?_
          case hy => (intro w hSw; (try dsimp only at hSw); obtain ⟨_, _, _⟩ := hSw; go_simp; all_goals (with_reducible rfl))
          try simp only [Act.put, List.setIfInBounds_toArray, List.set_cons_zero, List.set_cons_succ]
          refine wpAnyH_take (i := 12) (oi := { dst := some 37, op := Op.load 3 (Operand.tmp 36), type := 3, pos := "ref.go:126", after := #[{ on := 11, ground := Ground.data }, { on := 7, ground := Ground.guard }], guard := some (7, false) }) (v := ?_) rfl (by kernel_rfl) (by kernel_rfl) (by kernel_rfl) (fun _ _ _ h => h) (Or.inl ⟨by rfl, ?hy⟩) hHeld ?_
          case hy => (intro w hSw; (try dsimp only at hSw); obtain ⟨_, _, _⟩ := hSw; go_simp; all_goals (with_reducible rfl))
          try simp only [Act.put, List.setIfInBounds_toArray, List.set_cons_zero, List.set_cons_succ]
          refine wpAnyH_take (i := 13) (oi := { dst := some 38, op := Op.move (Operand.tmp 2), type := 3, pos := "ref.go:126", after := #[{ on := 7, ground := Ground.guard }], guard := some (7, false) }) (v := ?_) rfl (by kernel_rfl) (by kernel_rfl) (by kernel_rfl) (fun _ _ _ h => h) (Or.inl ⟨by rfl, ?hy⟩) hHeld ?_
          case hy => (intro w hSw; (try dsimp only at hSw); obtain ⟨_, _, _⟩ := hSw; go_simp; all_goals (with_reducible rfl))
          try simp only [Act.put, List.setIfInBounds_toArray, List.set_cons_zero, List.set_cons_succ]
          refine wpAnyH_take (i := 14) (oi := { dst := some 39, op := Op.binOp BinOp.neq 3 (Operand.tmp 37) (Operand.tmp 38) 3, type := 4, pos := "ref.go:126", after := #[{ on := 12, ground := Ground.data }, { on := 13, ground := Ground.data }, { on := 7, ground := Ground.guard }], guard := some (7, false) }) (v := ?_) rfl (by kernel_rfl) (by kernel_rfl) (by kernel_rfl) (fun _ _ _ h => h) (Or.inl ⟨by rfl, ?hy⟩) hHeld ?_
          case hy => (intro w hSw; (try dsimp only at hSw); obtain ⟨_, _, _⟩ := hSw; go_simp; all_goals (with_reducible rfl))
          try simp only [Act.put, List.setIfInBounds_toArray, List.set_cons_zero, List.set_cons_succ]
          refine wpAnyH_take (i := 15) (oi := { dst := some 40, op := Op.pick (Operand.tmp 32) (Operand.const (Value.bool true)) (Operand.tmp 39), type := 4, pos := "ref.go:126", after := #[{ on := 7, ground := Ground.data }, { on := 14, ground := Ground.data }], guard := none }) (v := ?_) rfl (by kernel_rfl) (by kernel_rfl) (by kernel_rfl) (fun _ _ _ h => h) (Or.inl ⟨by rfl, ?hy⟩) hHeld ?_
          case hy => (intro w hSw; (try dsimp only at hSw); obtain ⟨_, _, _⟩ := hSw; go_simp; all_goals (with_reducible rfl))
          try simp only [Act.put, List.setIfInBounds_toArray, List.set_cons_zero, List.set_cons_succ]
          refine wpAnyH_done (by kernel_rfl) ?_ _
          go_wp2
          go_meet
          exact ⟨by rw [HFQ.out], hid (bel_drewN (Below.refl wq.heap.size wq) 1)⟩
      · have HFQ := hid (show f q = true from by rw [HF.out]; unfold fNote; simp [hod])
        have e1 := heq
        simp only [hod, decide_false] at e1
        clear heq hod
        refine wp_region_held_drew (S := (fun wx : World => (loadVar 23 ⟨g, G, none⟩).run Tryz.prog wx = .ok (.agg OA) wx ∧ (loadVar 23 ⟨bx, 0, none⟩).run Tryz.prog wx = .ok (.agg OB) wx ∧ wx.cell? ⟨g, G + 32, none⟩ = some (.int .i64 (q.p : Int)))) (by kernel_rfl) (HKS.out _ (bel_drewN (Below.refl wq.heap.size wq) 1)) (fun hHeld => ?_)
        refine wpAnyH_take (i := 0) (oi := { dst := some 25, op := Op.move (Operand.tmp 0), type := 42, pos := "ref.go:126", after := #[], guard := none }) (v := ?_) rfl (by kernel_rfl) (by kernel_rfl) (by kernel_rfl) (fun _ _ _ h => h) (Or.inl ⟨by rfl, ?hy⟩) hHeld ?_
        case hy => (intro w hSw; (try dsimp only at hSw); obtain ⟨_, _, _⟩ := hSw; go_simp; all_goals (with_reducible rfl))
        try simp only [Act.put, List.setIfInBounds_toArray, List.set_cons_zero, List.set_cons_succ]
        refine wpAnyH_take (i := 1) (oi := { dst := some 26, op := Op.move (Operand.tmp 10), type := 3, pos := "ref.go:126", after := #[], guard := none }) (v := ?_) rfl (by kernel_rfl) (by kernel_rfl) (by kernel_rfl) (fun _ _ _ h => h) (Or.inl ⟨by rfl, ?hy⟩) hHeld ?_
        case hy => (intro w hSw; (try dsimp only at hSw); obtain ⟨_, _, _⟩ := hSw; go_simp; all_goals (with_reducible rfl))
        try simp only [Act.put, List.setIfInBounds_toArray, List.set_cons_zero, List.set_cons_succ]
        refine wpAnyH_take (i := 2) (oi := { dst := some 27, op := Op.indexAddr 42 (Operand.tmp 25) (Operand.tmp 26), type := 0, pos := "ref.go:126", after := #[{ on := 0, ground := Ground.data }, { on := 1, ground := Ground.data }], guard := none }) (v := ?_) rfl (by kernel_rfl) (by kernel_rfl) (by kernel_rfl) (fun _ _ _ h => h) (Or.inl ⟨by rfl, ?hy⟩) hHeld ?_
        case hy => (intro w hSw; (try dsimp only at hSw); obtain ⟨_, _, _⟩ := hSw; go_simp; all_goals (with_reducible rfl))
        try simp only [Act.put, List.setIfInBounds_toArray, List.set_cons_zero, List.set_cons_succ]
        refine wpAnyH_take (i := 3) (oi := { dst := some 28, op := Op.fieldAddr 134 (Operand.tmp 27) 0, type := 0, pos := "ref.go:126", after := #[{ on := 2, ground := Ground.data }], guard := none }) (v := ?_) rfl (by kernel_rfl) (by kernel_rfl) (by kernel_rfl) (fun _ _ _ h => h) (Or.inl ⟨by rfl, ?hy⟩) hHeld ?_
        case hy => (intro w hSw; (try dsimp only at hSw); obtain ⟨_, _, _⟩ := hSw; go_simp; all_goals (with_reducible rfl))
        try simp only [Act.put, List.setIfInBounds_toArray, List.set_cons_zero, List.set_cons_succ]
        refine wpAnyH_take (i := 4) (oi := { dst := some 29, op := Op.load 23 (Operand.tmp 28), type := 23, pos := "ref.go:126", after := #[{ on := 3, ground := Ground.data }], guard := none }) (v := .agg OA) rfl (by kernel_rfl) (by kernel_rfl) (by kernel_rfl) (fun _ _ _ h => h) (Or.inl ⟨by rfl, ?hy⟩) hHeld ?_
        case hy => (intro w hSw; exact run_load_opP hSw.1)
        try simp only [Act.put, List.setIfInBounds_toArray, List.set_cons_zero, List.set_cons_succ]
        refine wpAnyH_take (i := 5) (oi := { dst := some 30, op := Op.load 23 (Operand.tmp 5), type := 23, pos := "ref.go:126", after := #[], guard := none }) (v := .agg OB) rfl (by kernel_rfl) (by kernel_rfl) (by kernel_rfl) (fun _ _ _ h => h) (Or.inl ⟨by rfl, ?hy⟩) hHeld ?_
        case hy => (intro w hSw; exact run_load_opP hSw.2.1)
        try simp only [Act.put, List.setIfInBounds_toArray, List.set_cons_zero, List.set_cons_succ]
        refine wpAnyH_take (i := 6) (oi := { dst := some 31, op := Op.binOp BinOp.neq 23 (Operand.tmp 29) (Operand.tmp 30) 23, type := 4, pos := "ref.go:126", after := #[{ on := 4, ground := Ground.data }, { on := 5, ground := Ground.data }], guard := none }) (v := ?_) rfl (by kernel_rfl) (by kernel_rfl) (by kernel_rfl) (fun _ _ _ h => h) (Or.inl ⟨by rfl, ?hy⟩) hHeld ?_
        case hy => (intro w hSw; (try dsimp only at hSw); obtain ⟨_, _, _⟩ := hSw; go_simp; all_goals (with_reducible rfl))
        try simp only [Act.put, List.setIfInBounds_toArray, List.set_cons_zero, List.set_cons_succ]
        refine wpAnyH_take (i := 7) (oi := { dst := some 32, op := Op.move (Operand.tmp 31), type := 4, pos := "ref.go:126", after := #[{ on := 6, ground := Ground.data }], guard := none }) (v := ?_) rfl (by kernel_rfl) (by kernel_rfl) (by kernel_rfl) (fun _ _ _ h => h) (Or.inl ⟨by rfl, ?hy⟩) hHeld ?_
        case hy => (intro w hSw; (try dsimp only at hSw); obtain ⟨_, _, _⟩ := hSw; go_simp; all_goals (with_reducible rfl))
        try simp only [Act.put, List.setIfInBounds_toArray, List.set_cons_zero, List.set_cons_succ]
        refine wpAnyH_take (i := 8) (oi := { dst := some 33, op := Op.move (Operand.tmp 0), type := 42, pos := "ref.go:126", after := #[{ on := 7, ground := Ground.guard }], guard := some (7, false) }) (v := undef) rfl (by kernel_rfl) (by kernel_rfl) (by kernel_rfl) (fun _ _ _ h => h) (Or.inr ⟨by rfl, rfl⟩) hHeld ?_
        try simp only [Act.put, List.setIfInBounds_toArray, List.set_cons_zero, List.set_cons_succ]
        refine wpAnyH_take (i := 9) (oi := { dst := some 34, op := Op.move (Operand.tmp 10), type := 3, pos := "ref.go:126", after := #[{ on := 7, ground := Ground.guard }], guard := some (7, false) }) (v := undef) rfl (by kernel_rfl) (by kernel_rfl) (by kernel_rfl) (fun _ _ _ h => h) (Or.inr ⟨by rfl, rfl⟩) hHeld ?_
        try simp only [Act.put, List.setIfInBounds_toArray, List.set_cons_zero, List.set_cons_succ]
        refine wpAnyH_take (i := 10) (oi := { dst := some 35, op := Op.indexAddr 42 (Operand.tmp 33) (Operand.tmp 34), type := 0, pos := "ref.go:126", after := #[{ on := 8, ground := Ground.data }, { on := 9, ground := Ground.data }, { on := 7, ground := Ground.guard }], guard := some (7, false) }) (v := undef) rfl (by kernel_rfl) (by kernel_rfl) (by kernel_rfl) (fun _ _ _ h => h) (Or.inr ⟨by rfl, rfl⟩) hHeld ?_
        try simp only [Act.put, List.setIfInBounds_toArray, List.set_cons_zero, List.set_cons_succ]
        refine wpAnyH_take (i := 11) (oi := { dst := some 36, op := Op.fieldAddr 134 (Operand.tmp 35) 1, type := 0, pos := "ref.go:126", after := #[{ on := 10, ground := Ground.data }, { on := 7, ground := Ground.guard }], guard := some (7, false) }) (v := undef) rfl (by kernel_rfl) (by kernel_rfl) (by kernel_rfl) (fun _ _ _ h => h) (Or.inr ⟨by rfl, rfl⟩) hHeld ?_
        try simp only [Act.put, List.setIfInBounds_toArray, List.set_cons_zero, List.set_cons_succ]
        refine wpAnyH_take (i := 12) (oi := { dst := some 37, op := Op.load 3 (Operand.tmp 36), type := 3, pos := "ref.go:126", after := #[{ on := 11, ground := Ground.data }, { on := 7, ground := Ground.guard }], guard := some (7, false) }) (v := undef) rfl (by kernel_rfl) (by kernel_rfl) (by kernel_rfl) (fun _ _ _ h => h) (Or.inr ⟨by rfl, rfl⟩) hHeld ?_
        try simp only [Act.put, List.setIfInBounds_toArray, List.set_cons_zero, List.set_cons_succ]
        refine wpAnyH_take (i := 13) (oi := { dst := some 38, op := Op.move (Operand.tmp 2), type := 3, pos := "ref.go:126", after := #[{ on := 7, ground := Ground.guard }], guard := some (7, false) }) (v := undef) rfl (by kernel_rfl) (by kernel_rfl) (by kernel_rfl) (fun _ _ _ h => h) (Or.inr ⟨by rfl, rfl⟩) hHeld ?_
        try simp only [Act.put, List.setIfInBounds_toArray, List.set_cons_zero, List.set_cons_succ]
        refine wpAnyH_take (i := 14) (oi := { dst := some 39, op := Op.binOp BinOp.neq 3 (Operand.tmp 37) (Operand.tmp 38) 3, type := 4, pos := "ref.go:126", after := #[{ on := 12, ground := Ground.data }, { on := 13, ground := Ground.data }, { on := 7, ground := Ground.guard }], guard := some (7, false) }) (v := undef) rfl (by kernel_rfl) (by kernel_rfl) (by kernel_rfl) (fun _ _ _ h => h) (Or.inr ⟨by rfl, rfl⟩) hHeld ?_
        try simp only [Act.put, List.setIfInBounds_toArray, List.set_cons_zero, List.set_cons_succ]
        refine wpAnyH_take (i := 15) (oi := { dst := some 40, op := Op.pick (Operand.tmp 32) (Operand.const (Value.bool true)) (Operand.tmp 39), type := 4, pos := "ref.go:126", after := #[{ on := 7, ground := Ground.data }, { on := 14, ground := Ground.data }], guard := none }) (v := ?_) rfl (by kernel_rfl) (by kernel_rfl) (by kernel_rfl) (fun _ _ _ h => h) (Or.inl ⟨by rfl, ?hy⟩) hHeld ?_
        case hy => (intro w hSw; (try dsimp only at hSw); obtain ⟨_, _, _⟩ := hSw; go_simp; all_goals (with_reducible rfl))
        try simp only [Act.put, List.setIfInBounds_toArray, List.set_cons_zero, List.set_cons_succ]
        refine wpAnyH_done (by kernel_rfl) ?_ _
        go_wp2
        go_meet
        exact ⟨by rw [HFQ.out], hid (bel_drewN (Below.refl wq.heap.size wq) 1)⟩
    case rest =>
    obtain ⟨rfl, HBC⟩ := hcut
    obtain ⟨w4, rfl⟩ : ∃ y : World, y = wc := ⟨_, rfl⟩
    have HB4 := hid (HBR.out.trans (HBC.out.mono HBR.out.size))
    have HRG4 := hid (HRGB.out w4 HBC.out)
    have HOW4 := hid (owns_belowP HOW.out HBC.out)
    clear heq HKS
    rcases Bool.eq_false_or_eq_true (f q) with hcu | hcu
    · have HFE := hid (show (R.take (i + 1)).filter f = (R.take i).filter f ++ [q] from by rw [HTK.out, List.filter_append, ← HQ.out]; simp [hcu])
      rw [hcu]
      clear hcu
      go_wp2_with (first
        | (refine wpList_load_mid (by rfl) 134 (.tmp 44) (by rfl) g G (by rfl) (rcl q) _ HRG4.out Tryz.underlying134 rfl HIF.out ?_)
        | (refine wpList_build1C (by rfl) (.tmp 45) (by rfl) (rcl q).toArray q.od q.p q.t rfl HQO.out.ho (by rfl) ?_
           intro w5 hw5
           have HB45 := hid (show Below w4.heap.size w4 w5 from by rw [hw5]; exact (Below.refl _ _).alloc (Nat.le_refl _) _)
           have HW5 := hid (show w5.heap[w4.heap.size]? = some (.cells (rcl q).toArray 134 (0, 0)) from by rw [hw5]; exact heap_new _ _)
           have HOW5 := hid (owns_belowP HOW4.out HB45.out)
           clear hw5)
        | (refine wpList_appendC (by rfl) (.tmp 41) (.tmp 46) (by rfl) w1.heap.size _ ((R.take i).filter f) (by rfl) (ok_filter HOK.out f i) HOW5.out (by have := HLE.out; omega) w4.heap.size q HQO.out (by rfl) HW5.out (Nat.le_trans HB4.out.size HB45.out.size) ?_
           intro v6 w6 hown6 hb6
           rw [← HFE.out] at hown6
           have HOW6 := hid hown6
           have HB6 := hid ((HB4.out.trans (HB45.out.mono HB4.out.size)).trans hb6)
           clear hown6 hb6))
      exact ⟨⟨i + 1, by omega, by go_num, HOW6, HB6⟩, by simp [intOf]; omega⟩
    · have HFE := hid (show (R.take (i + 1)).filter f = (R.take i).filter f from by rw [HTK.out, List.filter_append, ← HQ.out]; simp [hcu])
      rw [hcu]
      clear hcu
      go_wp2_with fail
      exact ⟨⟨i + 1, by omega, by go_num, by rw [HFE.out]; exact HOW4, HB4⟩, by simp [intOf]; omega⟩
  · obtain rfl : n = i := by omega
    have hin' : ¬ (n : Int) < (n : Int) := by omega
    have HT := hid (show R.take n = R from by rw [HN.out]; exact List.take_length)
    rw [HT.out] at HOW HLE
    have HRGO := hid (show wr.rangeAt bx 0 (u8s obj) from range_own ((HBR.out.block _ (lt_of_heap HR0.out)).trans HR0.out))
    go_wp2_with (first
      | (refine wpList_load_mid (by rfl) 23 (.tmp 5) (by rfl) bx 0 (by rfl) (u8s obj) _ HRGO.out Tryz.underlying23 rfl HID.out ?_)
      | (refine wpList_build3 (by rfl) 134 (.tmp 49) (.tmp 50) (.tmp 51) (by rfl) (by rfl) (by rfl) (by rfl) (built_cl obj HO.out (p : Int) t) ?_)
      | (refine wpList_build1C (by rfl) (.tmp 52) (by rfl) (rcl ⟨obj, p, t⟩).toArray obj p t rfl HO.out (by rfl) ?_
         intro w5 hw5
         have HB45 := hid (show Below wr.heap.size wr w5 from by rw [hw5]; exact (Below.refl _ _).alloc (Nat.le_refl _) _)
         have HW5 := hid (show w5.heap[wr.heap.size]? = some (.cells (rcl ⟨obj, p, t⟩).toArray 134 (0, 0)) from by rw [hw5]; exact heap_new _ _)
         have HOW5 := hid (owns_belowP HOW.out HB45.out)
         clear hw5)
      | (refine wpList_appendC (by rfl) (.tmp 48) (.tmp 53) (by rfl) w1.heap.size _ (R.filter f) (by rfl) (fun c hc => HOK.out c (List.mem_filter.1 hc).1) HOW5.out (by have := HLE.out; omega) wr.heap.size ⟨obj, p, t⟩ HNW.out (by rfl) HW5.out (Nat.le_trans HBR.out.size HB45.out.size) ?_
         intro v6 w6 hown6 hb6
         have HOW6 := hid hown6
         have HB6 := hid ((HBR.out.trans (HB45.out.mono HBR.out.size)).trans hb6)
         clear hown6 hb6))
    go_ret
    refine ⟨_, rfl, ⟨?_, fun c hc => ?_⟩, HB1.out.trans (HB6.out.mono HB1.out.size)⟩
    · exact ⟨HOW6.out.1, HOW6.out.2.imp id fun ⟨g, cap, cur, e1, e2, e3⟩ => ⟨g, cap, cur, e1, Nat.zero_le _, e3⟩⟩
    · rcases List.mem_append.1 hc with h | h
      · exact HOK.out c (List.mem_filter.1 h).1
      · rw [List.mem_singleton.1 h]; exact HNW.out
end Go.Proofs.YtjgiiciniplbnaaGreatDoor

namespace Go.Proofs.YtjgiiciniplbnaaGreatDoor
open Go Go.RowKit Go.Lib Go.Sort
set_option linter.unusedVariables false

/-- the claimants of an object, as they come -/
def clsI (obj : List Nat) (R : List Clm) : List Int := (R.filter fun c => decide (c.od = obj)).map fun c => (c.p : Int)
set_option maxRecDepth 100000 in
set_option maxHeartbeats 8000000 in
theorem rClaimants_any (R : List Clm) (hl : R.length ≤ 100000) (a : Option Addr) (c : Nat) (obj : List Nat) (ho : obj.length = 32) (w : World) (hR : Rw w (.slice a R.length c) R) :
    Calls Tryz.prog 38 #[.slice a R.length c, .agg (u8s obj).toArray] w fun e w' => ∃ a' c', e = .returned (.slice a' (memb (setL (clsI obj R)) 16).length c') ∧ Is w' (.slice a' (memb (setL (clsI obj R)) 16).length c') ((memb (setL (clsI obj R)) 16).map Int.ofNat) ∧ Below w.heap.size w w' := by
  obtain ⟨w1, hw1⟩ : ∃ y, y = w.alloc (.cells (u8s obj).toArray 23) := ⟨_, rfl⟩
  have hb1 : Below w.heap.size w w1 := by rw [hw1]; exact (Below.refl _ _).alloc (Nat.le_refl _) _
  have HR0 := hid (show OwnD w1 w.heap.size obj from by rw [hw1]; exact heap_new _ _)
  have HR := hid (hR.below hb1)
  have HOK := hid hR.2
  have HB1 := hid hb1
  have HW1 := hid hw1
  have HO := hid ho
  have HID := hid (infoD obj ho)
  obtain ⟨n, hn⟩ : ∃ y, y = R.length := ⟨_, rfl⟩
  have HN := hid hn
  obtain ⟨bx, hbx⟩ : ∃ y, y = w.heap.size := ⟨_, rfl⟩
  rw [← hbx] at HR0
  rw [← hn] at hl ⊢
  rw [← hn] at HR
  obtain ⟨OB, hOB⟩ : ∃ y, y = (u8s obj).toArray := ⟨_, rfl⟩
  rw [← hOB] at HW1 ⊢
  have HOB := hid hOB
  have HLB := hid (show ∀ wx : World, Below w1.heap.size w1 wx → (loadVar 23 ⟨bx, 0, none⟩).run Tryz.prog wx = .ok (.agg OB) wx from fun wx h => by
    rw [HOB.out]
    exact run_loadVar_mid (P := Tryz.prog) wx bx 0 23 (u8s obj) _ (range_own ((h.block _ (lt_of_heap HR0.out)).trans HR0.out)) Tryz.underlying23 rfl HID.out)
  have hcl : ∀ i, (clsI obj (R.take i)).length ≤ 100000 := fun i => by
    unfold clsI
    rw [List.length_map]
    have := filter_len (R := R) (fun c => decide (c.od = obj)) i
    omega
  have HCL := hid hcl
  have HWF := hid (show ∀ i, ∀ y ∈ clsI obj (R.take i), (Lit.int .i64 y).wf = true from fun i y hy => by
    unfold clsI at hy
    obtain ⟨q, hq, rfl⟩ := List.mem_map.1 hy
    have h1 := (HOK.out q (List.mem_of_mem_take (List.mem_filter.1 hq).1)).hp
    exact wfN [q.p] (fun y hy => by simp only [List.mem_cons, List.not_mem_nil, or_false] at hy; omega) _ (List.mem_singleton.2 rfl))
  clear hR hn hw1 hb1 hOB hcl
  go_enter Tryz.func38, Tryz.ntmps38
  go_upto_region 1 with fail
  rw [← HW1.out, ← hbx]
  clear hbx
  go_wp2_with fail
  go_loopw [5, 6] (fun av iv wx => ∃ i : Nat, i ≤ n ∧ iv = .int .i64 i ∧ Hid (wx.ownsRow w1.heap.size 3 1 av (clsI obj (R.take i)).length (i64z (clsI obj (R.take i)))) ∧ Hid (Below w1.heap.size w1 wx)) (fun _ iv _ => n - (intOf iv).toNat)
  case atStart => exact ⟨0, by omega, rfl, hid (ownsZ_new (heap_new _ _)), hid ((Below.refl _ _).alloc (Nat.le_refl _) _)⟩
  case round =>
  obtain ⟨i, hi, rfl, HOW, HBR⟩ := hrel
  rcases Nat.lt_or_ge i n with hin | hin
  · as_aux_lemma =>
    have hin' : (i : Int) < (n : Int) := by omega
    have hi0 : (0 : Int) ≤ (i : Int) := by omega
    have hiR : i < R.length := by rw [← HN.out]; exact hin
    obtain ⟨g, rfl, hrg, hgl⟩ := (HR.out.below HBR.out).at_ i hiR
    obtain ⟨q, hq⟩ : ∃ y, y = R[i] := ⟨_, rfl⟩
    rw [← hq] at hrg
    have HQ := hid hq
    have HQO := hid (show q.Ok from by rw [hq]; exact HOK.out _ (List.getElem_mem hiR))
    have HTK := hid (take_snoc R i hiR)
    obtain ⟨G, hG⟩ : ∃ y, y = i * 34 := ⟨_, rfl⟩
    rw [← hG] at hrg
    have HRG := hid hrg
    have hG2 : i * 34 = G := hG.symm
    obtain ⟨OA, hOA⟩ : ∃ y, y = (u8s q.od).toArray := ⟨_, rfl⟩
    have HOA := hid hOA
    have HIQ := hid (infoD q.od HQO.out.ho)
    obtain ⟨wq, rfl⟩ : ∃ y : World, y = wr := ⟨_, rfl⟩
    have HRGB := hid (show ∀ wx : World, Below wq.heap.size wq wx → wx.rangeAt g G (rcl q) from fun wx h j u hj => (h.cell (World.block_lt_of_cell? _ _ (HRG.out j u hj))).trans (HRG.out j u hj))
    have HKS := hid (show ∀ wx : World, Below wq.heap.size wq wx → (loadVar 23 ⟨g, G, none⟩).run Tryz.prog wx = .ok (.agg OA) wx ∧ (loadVar 23 ⟨bx, 0, none⟩).run Tryz.prog wx = .ok (.agg OB) wx from fun wx h => by
      refine ⟨?_, HLB.out wx (HBR.out.trans (h.mono HBR.out.size))⟩
      rw [HOA.out]
      exact run_loadVar_mid (P := Tryz.prog) wx g G 23 (u8s q.od) _ (rangeAt_dig (HRGB.out wx h) HQO.out) Tryz.underlying23 rfl HIQ.out)
    have heq := fun wx => eql_any q.od obj HQO.out.ho HO.out wx
    rw [← hOA, ← HOB.out] at heq
    obtain ⟨bo, hbo⟩ : ∃ y, y = decide (q.od = obj) := ⟨_, rfl⟩
    rw [← hbo] at heq
    have HBO := hid hbo
    clear hrg hq hG hgl hOA hbo
    go_upto_region 5 with fail
    go_cut [20] (fun v wx => v = .bool bo ∧ Hid (Below wq.heap.size wq wx))
    case first =>
      refine wp_region_held_drew (S := (fun wx : World => (loadVar 23 ⟨g, G, none⟩).run Tryz.prog wx = .ok (.agg OA) wx ∧ (loadVar 23 ⟨bx, 0, none⟩).run Tryz.prog wx = .ok (.agg OB) wx)) (by kernel_rfl) (HKS.out _ (bel_drewN (Below.refl wq.heap.size wq) 1)) (fun hHeld => ?_)
      refine wpAnyH_take (i := 0) (oi := { dst := some 14, op := Op.move (Operand.tmp 0), type := 42, pos := "ref.go:148", after := #[], guard := none }) (v := ?_) rfl (by kernel_rfl) (by kernel_rfl) (by kernel_rfl) (fun _ _ _ h => h) (Or.inl ⟨by rfl, ?hy⟩) hHeld ?_
      case hy => (intro w hSw; (try dsimp only at hSw); obtain ⟨_, _⟩ := hSw; go_simp; all_goals (with_reducible rfl))
      try simp only [Act.put, List.setIfInBounds_toArray, List.set_cons_zero, List.set_cons_succ]
      refine wpAnyH_take (i := 1) (oi := { dst := some 15, op := Op.move (Operand.tmp 6), type := 3, pos := "ref.go:148", after := #[], guard := none }) (v := ?_) rfl (by kernel_rfl) (by kernel_rfl) (by kernel_rfl) (fun _ _ _ h => h) (Or.inl ⟨by rfl, ?hy⟩) hHeld ?_
      case hy => (intro w hSw; (try dsimp only at hSw); obtain ⟨_, _⟩ := hSw; go_simp; all_goals (with_reducible rfl))
      try simp only [Act.put, List.setIfInBounds_toArray, List.set_cons_zero, List.set_cons_succ]
      refine wpAnyH_take (i := 2) (oi := { dst := some 16, op := Op.indexAddr 42 (Operand.tmp 14) (Operand.tmp 15), type := 0, pos := "ref.go:148", after := #[{ on := 0, ground := Ground.data }, { on := 1, ground := Ground.data }], guard := none }) (v := ?_) rfl (by kernel_rfl) (by kernel_rfl) (by kernel_rfl) (fun _ _ _ h => h) (Or.inl ⟨by rfl, ?hy⟩) hHeld ?_
      case hy => (intro w hSw; (try dsimp only at hSw); obtain ⟨_, _⟩ := hSw; go_simp; all_goals (with_reducible rfl))
      try simp only [Act.put, List.setIfInBounds_toArray, List.set_cons_zero, List.set_cons_succ]
      refine wpAnyH_take (i := 3) (oi := { dst := some 17, op := Op.fieldAddr 134 (Operand.tmp 16) 0, type := 0, pos := "ref.go:148", after := #[{ on := 2, ground := Ground.data }], guard := none }) (v := ?_) rfl (by kernel_rfl) (by kernel_rfl) (by kernel_rfl) (fun _ _ _ h => h) (Or.inl ⟨by rfl, ?hy⟩) hHeld ?_
      case hy => (intro w hSw; (try dsimp only at hSw); obtain ⟨_, _⟩ := hSw; go_simp; all_goals (with_reducible rfl))
      try simp only [Act.put, List.setIfInBounds_toArray, List.set_cons_zero, List.set_cons_succ]
      refine wpAnyH_take (i := 4) (oi := { dst := some 18, op := Op.load 23 (Operand.tmp 17), type := 23, pos := "ref.go:148", after := #[{ on := 3, ground := Ground.data }], guard := none }) (v := .agg OA) rfl (by kernel_rfl) (by kernel_rfl) (by kernel_rfl) (fun _ _ _ h => h) (Or.inl ⟨by rfl, ?hy⟩) hHeld ?_
      case hy => (intro w hSw; exact run_load_opP hSw.1)
      try simp only [Act.put, List.setIfInBounds_toArray, List.set_cons_zero, List.set_cons_succ]
      refine wpAnyH_take (i := 5) (oi := { dst := some 19, op := Op.load 23 (Operand.tmp 3), type := 23, pos := "ref.go:148", after := #[], guard := none }) (v := .agg OB) rfl (by kernel_rfl) (by kernel_rfl) (by kernel_rfl) (fun _ _ _ h => h) (Or.inl ⟨by rfl, ?hy⟩) hHeld ?_
      case hy => (intro w hSw; exact run_load_opP hSw.2)
      try simp only [Act.put, List.setIfInBounds_toArray, List.set_cons_zero, List.set_cons_succ]
      refine wpAnyH_take (i := 6) (oi := { dst := some 20, op := Op.binOp BinOp.eql 23 (Operand.tmp 18) (Operand.tmp 19) 23, type := 4, pos := "ref.go:148", after := #[{ on := 4, ground := Ground.data }, { on := 5, ground := Ground.data }], guard := none }) (v := ?_) rfl (by kernel_rfl) (by kernel_rfl) (by kernel_rfl) (fun _ _ _ h => h) (Or.inl ⟨by rfl, ?hy⟩) hHeld ?_
      case hy => (intro w hSw; (try dsimp only at hSw); obtain ⟨_, _⟩ := hSw; go_simp; all_goals (with_reducible rfl))
      try simp only [Act.put, List.setIfInBounds_toArray, List.set_cons_zero, List.set_cons_succ]
      refine wpAnyH_done (by kernel_rfl) ?_ _
      go_wp2
      go_meet
      exact ⟨rfl, hid (bel_drewN (Below.refl wq.heap.size wq) 1)⟩
    case rest =>
    obtain ⟨rfl, HBC⟩ := hcut
    obtain ⟨w4, rfl⟩ : ∃ y : World, y = wc := ⟨_, rfl⟩
    have HB4 := hid (HBR.out.trans (HBC.out.mono HBR.out.size))
    have h32 := HRGB.out w4 HBC.out 32 _ (rcl_32 q HQO.out).1
    have HOW4 := hid (owns_belowP HOW.out HBC.out)
    have HLE := hid (HCL.out i)
    clear heq HKS
    cases bo with
    | true =>
      have HFE := hid (show clsI obj (R.take (i + 1)) = clsI obj (R.take i) ++ [(q.p : Int)] from by unfold clsI; rw [HTK.out, List.filter_append, List.map_append, ← HQ.out]; simp [HBO.out.symm])
      have HW1q := hid (show ∀ y ∈ [(q.p : Int)], (Lit.int .i64 y).wf = true from wfN [q.p] (fun y hy => by have := HQO.out.hp; simp only [List.mem_cons, List.not_mem_nil, or_false] at hy; omega))
      have hszr := HB4.out.size
      go_wp2_with (
        (have h0 := HW1q.out)
        (refine wpList_appendZ (by rfl) (.tmp 21) (.tmp 27) (by rfl) w1.heap.size _ (clsI obj (R.take i)).length (clsI obj (R.take i)) (by rfl) (owns_belowP HOW4.out ((Below.refl _ _).alloc (Nat.le_refl _) _)) (by have := HLE.out; omega) (some ⟨_, 0, none⟩) 1 1 [(q.p : Int)] (by rfl) (is_i64 _ [(q.p : Int)] h0) (by intro h; cases h) (by omega) (by omega) (by simp; omega) ?_)
        (intro v6 w6 hown6 hb6)
        (have HOW6 := hid (show w6.ownsRow w1.heap.size 3 1 v6 (clsI obj (R.take (i + 1))).length (i64z (clsI obj (R.take (i + 1)))) from by rw [HFE.out, List.length_append]; exact hown6))
        (have HB6 := hid ((HB4.out.alloc HB4.out.size (.cells #[.int .i64 (q.p : Int)] 3)).trans hb6))
        (clear hown6 hb6 h0))
      exact ⟨⟨i + 1, by omega, by go_num, HOW6, HB6⟩, by simp [intOf]; omega⟩
    | false =>
      have HFE := hid (show clsI obj (R.take (i + 1)) = clsI obj (R.take i) from by unfold clsI; rw [HTK.out, List.filter_append, List.map_append, ← HQ.out]; simp [HBO.out.symm])
      clear h32
      go_wp2_with fail
      exact ⟨⟨i + 1, by omega, by go_num, by rw [HFE.out]; exact HOW4, HB4⟩, by simp [intOf]; omega⟩
  · obtain rfl : n = i := by omega
    have hin' : ¬ (n : Int) < (n : Int) := by omega
    have HT := hid (show R.take n = R from by rw [HN.out]; exact List.take_length)
    have hle := HCL.out n
    have hwf := HWF.out n
    rw [HT.out] at HOW hle hwf
    obtain ⟨aa, ac, rfl, -, hac, hisA, hnA, hblA⟩ := is_of_ownsZ HOW.out hwf
    have HPE := hid (rpeers_any aa _ ac (clsI obj R) wr hisA (by omega))
    clear hwf hac hisA hnA hblA
    obtain ⟨nl, hnl⟩ : ∃ y, y = (clsI obj R).length := ⟨_, rfl⟩
    rw [← hnl] at HPE ⊢
    clear hnl hle
    go_wp2_with fail
    refine HPE.out.mono ?_
    rintro e w7 ⟨a', c', rfl, h1, h2, h3, h4, h5⟩
    have H1 := hid h1
    have H5 := hid h5
    clear h1 h2 h3 h4 h5
    go_wp2_with fail
    go_ret
    exact ⟨a', c', rfl, H1.out, HB1.out.trans ((HBR.out.trans (H5.out.mono HBR.out.size)).mono HB1.out.size)⟩
end Go.Proofs.YtjgiiciniplbnaaGreatDoor

namespace Go.Proofs.YtjgiiciniplbnaaGreatDoor
open Go Go.RowKit Go.Lib Go.Sort
set_option linter.unusedVariables false

/-- a claim that blocks -/
def hitC (obj : List Nat) (self clock : Int) (ll lh : List Int) (c : Clm) : Bool := decide (c.od = obj) && curr c.t clock && decide (cmpP obj (c.p : Int) self < 0) && ll.contains (c.p : Int) && !lh.contains (c.p : Int)
set_option maxRecDepth 100000 in
set_option maxHeartbeats 16000000 in
theorem rBlocked_any (R : List Clm) (hl : R.length ≤ 100000) (a : Option Addr) (c : Nat) (obj : List Nat) (ho : obj.length = 32) (hlt : ∀ y ∈ obj, y < 256) (self clock : Int) (hc0 : 0 ≤ clock) (hc1 : clock < 18446744073709551616) (al : Option Addr) (nl cl : Nat) (ll : List Int) (ah : Option Addr) (nh ch : Nat) (lh : List Int)
    (w : World) (V : Rnds w) (hR : Rw w (.slice a R.length c) R) (hil : Is w (.slice al nl cl) ll) (hnl : nl ≤ 1000000) (hih : Is w (.slice ah nh ch) lh) (hnh : nh ≤ 1000000) :
    Calls Tryz.prog 40 #[.slice a R.length c, .agg (u8s obj).toArray, .int .i64 self, .int .u64 clock, .slice al nl cl, .slice ah nh ch] w fun e w' => e = .returned (.bool (R.any (hitC obj self clock ll lh))) ∧ Below w.heap.size w w' := by
  obtain ⟨w1, hw1⟩ : ∃ y, y = w.alloc (.cells (u8s obj).toArray 23) := ⟨_, rfl⟩
  have hb1 : Below w.heap.size w w1 := by rw [hw1]; exact (Below.refl _ _).alloc (Nat.le_refl _) _
  have HR0 := hid (show OwnD w1 w.heap.size obj from by rw [hw1]; exact heap_new _ _)
  have HR := hid (hR.below hb1)
  have HOK := hid hR.2
  have HB1 := hid hb1
  have HW1 := hid hw1
  have HO := hid ho
  have HLT := hid hlt
  have HV := hid V
  have HID := hid (infoD obj ho)
  have HIL := hid hil
  have HIH := hid hih
  obtain ⟨n, hn⟩ : ∃ y, y = R.length := ⟨_, rfl⟩
  have HN := hid hn
  obtain ⟨bx, hbx⟩ : ∃ y, y = w.heap.size := ⟨_, rfl⟩
  rw [← hbx] at HR0
  rw [← hn] at hl ⊢
  rw [← hn] at HR
  obtain ⟨hit, hhit⟩ : ∃ y, y = hitC obj self clock ll lh := ⟨_, rfl⟩
  rw [← hhit]
  have HH := hid (show ∀ c, hit c = (decide (c.od = obj) && curr c.t clock && decide (cmpP obj (c.p : Int) self < 0) && ll.contains (c.p : Int) && !lh.contains (c.p : Int)) from fun c => by rw [hhit]; rfl)
  obtain ⟨OB, hOB⟩ : ∃ y, y = (u8s obj).toArray := ⟨_, rfl⟩
  rw [← hOB] at HW1 ⊢
  have HOB := hid hOB
  have HRX := hid (fun (wx : World) (h : Below w1.heap.size w1 wx) => range_own ((h.block _ (lt_of_heap HR0.out)).trans HR0.out))
  clear hR hn hw1 hb1 hOB hil hih V hhit
  go_enter Tryz.func40, Tryz.ntmps40
  go_upto_region 1 with fail
  rw [← HW1.out, ← hbx]
  have HBX := hid hbx
  clear hbx
  go_wp2_with fail
  go_loopw [13] (fun iv wx => ∃ i : Nat, i ≤ n ∧ iv = .int .i64 i ∧ Hid ((R.take i).any hit = false) ∧ Hid (Below w1.heap.size w1 wx)) (fun iv _ => n - (intOf iv).toNat)
  case atStart => exact ⟨0, by omega, rfl, hid rfl, hid (Below.refl _ _)⟩
  case round =>
  obtain ⟨i, hi, rfl, HNO, HBR⟩ := hrel
  rcases Nat.lt_or_ge i n with hin | hin
  · as_aux_lemma =>
    have hin' : (i : Int) < (n : Int) := by omega
    have hi0 : (0 : Int) ≤ (i : Int) := by omega
    have hiR : i < R.length := by rw [← HN.out]; exact hin
    obtain ⟨g, rfl, hrg, hgl⟩ := (HR.out.below HBR.out).at_ i hiR
    obtain ⟨q, hq⟩ : ∃ y, y = R[i] := ⟨_, rfl⟩
    rw [← hq] at hrg
    have HQ := hid hq
    have HQO := hid (show q.Ok from by rw [hq]; exact HOK.out _ (List.getElem_mem hiR))
    have HIF := hid (infoCm q HQO.out)
    have HTK := hid (take_snoc R i hiR)
    have HNX := hid (show hit q = false → (R.take (i + 1)).any hit = false from fun h => by rw [HTK.out, List.any_append, HNO.out, ← HQ.out]; simp [h])
    have HYE := hid (show hit q = true → R.any hit = true from fun h => List.any_eq_true.2 ⟨q, by rw [HQ.out]; exact List.getElem_mem hiR, h⟩)
    obtain ⟨G, hG⟩ : ∃ y, y = i * 34 := ⟨_, rfl⟩
    rw [← hG] at hrg
    have HRG := hid hrg
    have hG2 : i * 34 = G := hG.symm
    have HCU := hid (fun wx => rcur_any q HQO.out clock hc0 hc1 wx)
    obtain ⟨wq, rfl⟩ : ∃ y : World, y = wr := ⟨_, rfl⟩
    have HIA := hid (show (Tryz.prog.info? 134).map (·.size) = some (rcl q).toArray.size from by rw [List.size_toArray, rcl_length q HQO.out]; kernel_rfl)
    have HSZ := hid (show ((cells3 (List.replicate 32 0) 0 0).toArray : Array Value).size = (rcl q).toArray.size from by rw [List.size_toArray, List.size_toArray, rcl_length q HQO.out]; rfl)
    have HONE := hid (show (rcl q).toArray.all (·.oneCell') = true from all_oneCell_toArray (rcl_one q))
    obtain ⟨bo, hbo⟩ : ∃ y, y = decide (q.od = obj) := ⟨_, rfl⟩
    have heq := fun wx => eql_any q.od obj HQO.out.ho HO.out wx
    rw [← hbo] at heq
    have HBT := hid (fun (wx : World) (h : Below w1.heap.size w1 wx) => rBetter_any obj HO.out HLT.out (q.p : Int) self wx (HV.out.below (HB1.out.trans (h.mono HB1.out.size))))
    have HLL := hid (fun (wx : World) (h : Below w1.heap.size w1 wx) => Has_any al nl cl ll (q.p : Int) wx (HIL.out.belowP (HB1.out.trans (h.mono HB1.out.size))) hnl)
    have HLH := hid (fun (wx : World) (h : Below w1.heap.size w1 wx) => Has_any ah nh ch lh (q.p : Int) wx (HIH.out.belowP (HB1.out.trans (h.mono HB1.out.size))) hnh)
    have hh := HH.out q
    rw [← hbo] at hh
    obtain ⟨b2, hb2⟩ : ∃ y, y = curr q.t clock := ⟨_, rfl⟩
    obtain ⟨b3, hb3⟩ : ∃ y, y = decide (cmpP obj (q.p : Int) self < 0) := ⟨_, rfl⟩
    obtain ⟨b4, hb4⟩ : ∃ y, y = ll.contains (q.p : Int) := ⟨_, rfl⟩
    obtain ⟨b5, hb5⟩ : ∃ y, y = lh.contains (q.p : Int) := ⟨_, rfl⟩
    rw [← hb2, ← hb3, ← hb4, ← hb5] at hh
    rw [← hb2] at HCU
    rw [← hb3] at HBT
    rw [← hb4] at HLL
    rw [← hb5] at HLH
    have HHQ := hid hh
    clear hrg hq hG hgl hbo hh hb2 hb3 hb4 hb5
    have heq2 := hid heq
    clear heq
    go_upto_region 5 with (first
      | (refine wpList_load_mid (by rfl) 134 (.tmp 23) (by rfl) g G (by rfl) (rcl q) _ HRG.out Tryz.underlying134 rfl HIF.out ?_)
      | (refine wpList_store_row (by rfl) 134 (.tmp 14) (.tmp 24) (by rfl) wq.heap.size _ (rcl q).toArray 134 (by rfl) (by rfl) (heap_new _ _) HIA.out HSZ.out HONE.out ?_
         intro w3 hw3 hk3))
    have hb13 : Below wq.heap.size wq w3 := ((Below.refl wq.heap.size wq).alloc (Nat.le_refl _) _).trans (hk3.below (by simp) (Nat.le_refl _))
    obtain ⟨kb, hkb⟩ : ∃ y, y = wq.heap.size := ⟨_, rfl⟩
    rw [← hkb] at hw3 ⊢
    have HB3 := hid (HBR.out.trans (hb13.mono HBR.out.size))
    have HW3 := hid hw3
    have HRK := hid (show ∀ wx : World, Below w3.heap.size w3 wx → wx.rangeAt kb 0 (rcl q) ∧ wx.cell? ⟨kb, 32, none⟩ = some (.int .i64 (q.p : Int)) from fun wx h => by
      have h1 := range_of_heapI ((h.block _ (lt_of_heap HW3.out)).trans HW3.out)
      exact ⟨h1, by have := h1 32 _ (rcl_32 q HQO.out).1; rwa [Nat.zero_add] at this⟩)
    have HIQ := hid (infoD q.od HQO.out.ho)
    have HRD3 := hid (show w3.rangeAt kb 0 (u8s q.od) from rangeAt_dig (HRK.out w3 (Below.refl _ _)).1 HQO.out)
    have HRR3 := hid (HRK.out w3 (Below.refl _ _)).1
    have HRX3 := hid (HRX.out w3 HB3.out)
    have HIF2 := hid (infoCm q HQO.out)
    clear hw3 hk3 hb13 hkb HIA HSZ HONE HRG
    have e1 := heq2.out
    cases bo with
    | false =>
      have HNN := hid (HNX.out (by rw [HHQ.out]; rfl))
      go_wp2_with (first
        | (refine wpList_load_mid (by rfl) 23 (.tmp 25) (by rfl) kb 0 (by rfl) (u8s q.od) _ HRD3.out Tryz.underlying23 rfl HIQ.out ?_)
        | (refine wpList_load_mid (by rfl) 23 (.tmp 7) (by rfl) bx 0 (by rfl) (u8s obj) _ HRX3.out Tryz.underlying23 rfl HID.out ?_))
      exact ⟨⟨i + 1, by omega, by go_num, HNN, HB3⟩, by simp [intOf]; omega⟩
    | true =>
    go_wp2_with (first
      | (refine wpList_load_mid (by rfl) 23 (.tmp 25) (by rfl) kb 0 (by rfl) (u8s q.od) _ HRD3.out Tryz.underlying23 rfl HIQ.out ?_)
      | (refine wpList_load_mid (by rfl) 23 (.tmp 7) (by rfl) bx 0 (by rfl) (u8s obj) _ HRX3.out Tryz.underlying23 rfl HID.out ?_)
      | (refine wpList_load_wantP (by rfl) 134 (.tmp 14) (by rfl) kb 0 (by rfl) (rcl q) _ HRR3.out Tryz.underlying134 rfl HIF2.out ?_))
    refine (HCU.out w3).mono ?_
    rintro e w4 ⟨rfl, hb4⟩
    have HB4 := hid (HB3.out.trans (hb4.mono HB3.out.size))
    have HX4 := hid hb4
    have HRX4 := hid (HRX.out w4 HB4.out)
    clear hb4 e1
    cases b2 with
    | false =>
      have HNN := hid (HNX.out (by rw [HHQ.out]; rfl))
      go_wp2_with fail
      exact ⟨⟨i + 1, by omega, by go_num, HNN, HB4⟩, by simp [intOf]; omega⟩
    | true =>
    have c4 := (HRK.out w4 HX4.out).2
    go_wp2_with (refine wpList_load_wantP (by rfl) 23 (.tmp 7) (by rfl) bx 0 (by rfl) (u8s obj) _ HRX4.out Tryz.underlying23 rfl HID.out ?_)
    refine (HBT.out w4 HB4.out).mono ?_
    rintro e w5 ⟨rfl, hb5⟩
    have HB5 := hid (HB4.out.trans (hb5.mono HB4.out.size))
    have HX5 := hid (HX4.out.trans (hb5.mono HX4.out.size))
    clear hb5 c4
    cases b3 with
    | false =>
      have HNN := hid (HNX.out (by rw [HHQ.out]; rfl))
      go_wp2_with fail
      exact ⟨⟨i + 1, by omega, by go_num, HNN, HB5⟩, by simp [intOf]; omega⟩
    | true =>
    have c5 := (HRK.out w5 HX5.out).2
    go_wp2_with fail
    refine (HLL.out w5 HB5.out).mono ?_
    rintro e w6 ⟨rfl, rfl⟩
    cases b4 with
    | false =>
      have HNN := hid (HNX.out (by rw [HHQ.out]; rfl))
      go_wp2_with fail
      exact ⟨⟨i + 1, by omega, by go_num, HNN, HB5⟩, by simp [intOf]; omega⟩
    | true =>
    go_wp2_with fail
    refine (HLH.out w5 HB5.out).mono ?_
    rintro e w6 ⟨rfl, rfl⟩
    cases b5 with
    | true =>
      have HNN := hid (HNX.out (by rw [HHQ.out]; rfl))
      go_wp2_with fail
      exact ⟨⟨i + 1, by omega, by go_num, HNN, HB5⟩, by simp [intOf]; omega⟩
    | false =>
    have HYY := hid (HYE.out (by rw [HHQ.out]; rfl))
    go_wp2_with fail
    go_ret
    exact ⟨by rw [HYY.out]; rfl, HB1.out.trans (HB5.out.mono HB1.out.size)⟩
  · obtain rfl : n = i := by omega
    have hin' : ¬ (n : Int) < (n : Int) := by omega
    have HT := hid (show R.take n = R from by rw [HN.out]; exact List.take_length)
    rw [HT.out] at HNO
    go_wp2_with fail
    go_ret
    exact ⟨by rw [HNO.out]; rfl, HB1.out.trans (HBR.out.mono HB1.out.size)⟩
end Go.Proofs.YtjgiiciniplbnaaGreatDoor

namespace Go.Proofs.YtjgiiciniplbnaaGreatDoor
open Go Go.RowKit Go.Lib Go.Sort
set_option linter.unusedVariables false

theorem uniq_sorted {α : Type} (R : α → α → Prop) (ir : ∀ x y, R x y → R y x → False) : ∀ l m : List α, l.Pairwise R → m.Pairwise R → (∀ x, x ∈ l ↔ x ∈ m) → l = m
  | [], [], _, _, _ => rfl
  | [], y :: m, _, _, h => absurd ((h y).2 (by simp)) (by simp)
  | x :: l, [], _, _, h => absurd ((h x).1 (by simp)) (by simp)
  | x :: l, y :: m, hl, hm, h => by
    rw [List.pairwise_cons] at hl hm
    have hxy : x = y := by
      have h1 := (h x).1 (by simp)
      have h2 := (h y).2 (by simp)
      rw [List.mem_cons] at h1 h2
      rcases h1 with h1 | h1
      · exact h1
      · rcases h2 with h2 | h2
        · exact h2.symm
        · exact (ir _ _ (hl.1 _ h2) (hm.1 _ h1)).elim
    subst hxy
    rw [uniq_sorted R ir l m hl.2 hm.2 (fun z => ⟨fun hz => by
      have := (h z).1 (by simp [hz])
      rw [List.mem_cons] at this
      rcases this with rfl | this
      · exact (ir _ _ (hl.1 _ hz) (hl.1 _ hz)).elim
      · exact this, fun hz => by
      have := (h z).2 (by simp [hz])
      rw [List.mem_cons] at this
      rcases this with rfl | this
      · exact (ir _ _ (hm.1 _ hz) (hm.1 _ hz)).elim
      · exact this⟩)]
theorem take_filter_mem {α : Type} (p : α → Bool) : ∀ (l : List α) (n : Nat) (x : α), x ∈ l.take n → p x = true → x ∈ (l.filter p).take n
  | [], n, x, h, _ => by simp at h
  | y :: l, 0, x, h, _ => by simp at h
  | y :: l, n + 1, x, h, hp => by
    rw [List.take_succ_cons, List.mem_cons] at h
    by_cases hy : p y = true
    · rw [List.filter_cons_of_pos hy, List.take_succ_cons, List.mem_cons]
      rcases h with rfl | h
      · exact .inl rfl
      · exact .inr (take_filter_mem p l n x h hp)
    · rw [List.filter_cons_of_neg hy]
      rcases h with rfl | h
      · exact absurd hp hy
      · have := take_filter_mem p l n x h hp
        exact (List.take_subset_take_left _ (Nat.le_succ n)) this
/-- with one removed: at most one is added, and then the removed was there -/
theorem added_one (g : Nat) : ∀ (l : List Nat) (n : Nat), l.Nodup →
    (((l.filter (fun x => x != g)).take n).filter (fun x => !(l.take n).contains x)).length ≤ (if (l.take n).contains g then 1 else 0)
  | [], n, _ => by simp
  | y :: l, 0, _ => by simp
  | y :: l, n + 1, hn => by
    rw [List.nodup_cons] at hn
    by_cases hy : y = g
    · subst hy
      have h1 : (y :: l).filter (fun x => x != y) = l := by
        rw [List.filter_cons_of_neg (by simp), List.filter_eq_self.2 (fun x hx => by simp; rintro rfl; exact hn.1 hx)]
      rw [h1, List.take_succ_cons]
      have h2 : ((y :: l.take n).contains y) = true := by simp
      rw [h2, if_pos rfl]
      have h3 : (l.take (n + 1)).filter (fun x => !(y :: l.take n).contains x) = ((l.drop n).take 1).filter (fun x => !(y :: l.take n).contains x) := by
        rw [show l.take (n + 1) = l.take n ++ (l.drop n).take 1 by rw [List.take_add], List.filter_append]
        rw [List.filter_eq_nil_iff.2 (by intro x hx; simp; exact fun _ => hx)]
        simp
      rw [h3]
      exact Nat.le_trans (List.length_filter_le _ _) (by simp; omega)
    · rw [List.filter_cons_of_pos (by simpa using hy), List.take_succ_cons, List.take_succ_cons]
      have ih := added_one g l n hn.2
      have e : ((y :: l.take n).contains g) = (l.take n).contains g := by
        rw [Bool.eq_iff_iff, List.contains_iff_mem, List.contains_iff_mem, List.mem_cons]
        exact ⟨fun h => h.resolve_left (fun h => hy h.symm), .inr⟩
      rw [e, List.filter_cons_of_neg (by simp)]
      refine Nat.le_trans ?_ ih
      apply List.Sublist.length_le
      have : ∀ (m : List Nat), m.filter (fun x => !(y :: l.take n).contains x) = (m.filter (fun x => !(l.take n).contains x)).filter (fun x => x != y) := fun m => by
        rw [List.filter_filter]
        apply List.filter_congr
        intro x _
        by_cases hxy : x = y
        · subst hxy; simp
        · simp [hxy]
      rw [this]
      exact List.filter_sublist

/-- the number that leaves, among the peers -/
def goneN (G : Int) : Nat := if 0 ≤ G then G.toNat else 1000
theorem gone_ne (G : Int) (x : Nat) (hx : x < 16) : ((x : Int) != G) = (x != goneN G) := by
  unfold goneN
  rw [Bool.eq_iff_iff, bne_iff_ne, bne_iff_ne]
  split <;> omega
/-- the list without the one that leaves -/
def lessL (l : List Int) (G : Int) : List Int := l.filter (· != G)
theorem setL_less (l : List Int) (G : Int) (i : Nat) (hi : i < 16) : setL (lessL l G) i = (setL l i && (i != goneN G)) := by
  unfold setL lessL
  rw [← gone_ne G i hi, Bool.eq_iff_iff, Bool.and_eq_true, List.contains_iff_mem, List.contains_iff_mem, List.mem_filter]
theorem rkd_less (obj : List Nat) (l : List Int) (G : Int) : rkd obj (setL (lessL l G)) = (rkd obj (setL l)).filter (fun x => x != goneN G) := by
  refine uniq_sorted (fun x y => cfN obj x y < 0) (fun x y h k => ?_) _ _ (rkd_sorted _ _) ((rkd_sorted _ _).filter _) (fun x => ?_)
  · have := cfN_neg obj x y
    omega
  · rw [rkd_mem, List.mem_filter, rkd_mem]
    constructor
    · rintro ⟨h1, h2⟩
      rw [setL_less l G x h1, Bool.and_eq_true] at h2
      exact ⟨⟨h1, h2.1⟩, h2.2⟩
    · rintro ⟨⟨h1, h2⟩, h3⟩
      refine ⟨h1, ?_⟩
      rw [setL_less l G x h1, h2, h3]
      rfl
theorem take_chN {α : Type} (l : List α) (N : Int) (h : 0 ≤ N) : l.take (chN N l.length) = l.take N.toNat := by
  unfold chN
  rcases Nat.lt_or_ge N.toNat l.length with h1 | h1
  · congr 1
    omega
  · rw [List.take_of_length_le h1, List.take_of_length_le (by omega)]
theorem chosen_less (obj : List Nat) (l : List Int) (G N : Int) (hN : 0 ≤ N) : chosenL obj (lessL l G) N = ((rkd obj (setL l)).filter (fun x => x != goneN G)).take N.toNat := by
  unfold chosenL
  rw [rkd_less, take_chN _ N hN]
theorem chosen_take (obj : List Nat) (l : List Int) (N : Int) (hN : 0 ≤ N) : chosenL obj l N = (rkd obj (setL l)).take N.toNat := by
  unfold chosenL
  rw [take_chN _ N hN]
theorem chosen_lt (obj : List Nat) (l : List Int) (N : Int) : ∀ x ∈ chosenL obj l N, x < 16 ∧ l.contains (x : Int) = true := fun x hx => (rkd_mem obj (setL l) x).1 (List.mem_of_mem_take hx)
/-- who was chosen and did not leave is chosen -/
theorem stays (obj : List Nat) (l : List Int) (G N : Int) (hN : 0 ≤ N) (x : Nat) (hx : x ∈ chosenL obj l N) (hg : (x : Int) ≠ G) : ((chosenL obj (lessL l G) N).map Int.ofNat).contains (x : Int) = true := by
  rw [mem_ofNat, List.contains_iff_mem, chosen_less _ _ _ _ hN]
  have h16 := (chosen_lt obj l N x hx).1
  rw [chosen_take _ _ _ hN] at hx
  exact take_filter_mem _ _ _ _ hx (by rw [← gone_ne G x h16]; simpa using hg)
theorem of_less (obj : List Nat) (l : List Int) (G N : Int) (x : Nat) (hx : x ∈ chosenL obj (lessL l G) N) : l.contains (x : Int) = true ∧ (x : Int) ≠ G := by
  have h := (chosen_lt obj _ N x hx).2
  unfold lessL at h
  rw [List.contains_iff_mem, List.mem_filter] at h
  exact ⟨by rw [List.contains_iff_mem]; exact h.1, by simpa using h.2⟩
/-- the numbers of a list that are not in another -/
def newsOf (B A : List Nat) : Nat := (A.filter fun (x : Nat) => !(B.map Int.ofNat).contains (x : Int)).length
theorem newsOf_eq (B A : List Nat) : newsOf B A = (A.filter fun x => !B.contains x).length := by
  unfold newsOf
  congr 1
  apply List.filter_congr
  intro x _
  rw [mem_ofNat]
theorem news_one (obj : List Nat) (l : List Int) (G N : Int) (hN : 0 ≤ N) : newsOf (chosenL obj l N) (chosenL obj (lessL l G) N) = 0 ∨ (newsOf (chosenL obj l N) (chosenL obj (lessL l G) N) = 1 ∧ ((chosenL obj l N).map Int.ofNat).contains G = true) := by
  have h := added_one (goneN G) (rkd obj (setL l)) N.toNat (rkd_nodup _ _)
  rw [← chosen_less _ _ _ _ hN, ← chosen_take _ _ _ hN, ← newsOf_eq] at h
  by_cases hc : (chosenL obj l N).contains (goneN G) = true
  · rw [if_pos hc] at h
    rcases Nat.eq_zero_or_pos (newsOf (chosenL obj l N) (chosenL obj (lessL l G) N)) with h0 | h0
    · exact .inl h0
    · refine .inr ⟨by omega, ?_⟩
      rw [List.contains_iff_mem] at hc
      have h16 := (chosen_lt obj l N _ hc).1
      have hg : ((goneN G : Nat) : Int) = G := by
        unfold goneN at h16 ⊢
        split at h16
        · rw [if_pos (by assumption)]; omega
        · omega
      have h2 := mem_ofNat (chosenL obj l N) (goneN G)
      rw [hg] at h2
      rw [h2, List.contains_iff_mem]
      exact hc
  · rw [if_neg hc] at h
    exact .inl (by omega)
theorem news_succ (B A : List Nat) (k : Nat) (hk : k < A.length) : newsOf B (A.take (k + 1)) = newsOf B (A.take k) + (if (B.map Int.ofNat).contains ((A.map Int.ofNat).getD k 0) then 0 else 1) := by
  unfold newsOf
  rw [List.take_succ_eq_append_getElem hk, List.filter_append, List.length_append]
  congr 1
  have e : (A.map Int.ofNat).getD k 0 = ((A[k] : Nat) : Int) := by
    rw [List.getD_eq_getElem?_getD, List.getElem?_eq_getElem (by simpa using hk), List.getElem_map]
    rfl
  rw [e]
  cases h : (B.map Int.ofNat).contains ((A[k] : Nat) : Int)
  · rw [List.filter_cons_of_pos (by simpa using h)]
    simp
  · rw [List.filter_cons_of_neg (by simpa using h)]
    simp
theorem getD_ofNat (A : List Nat) (k : Nat) (hk : k < A.length) : ∃ x ∈ A, (A.map Int.ofNat).getD k 0 = (x : Int) := by
  refine ⟨A[k], List.getElem_mem _, ?_⟩
  rw [List.getD_eq_getElem?_getD, List.getElem?_eq_getElem (by simpa using hk), List.getElem_map]
  rfl
theorem chosen_back (obj : List Nat) (l : List Int) (G N : Int) : chosenL obj (lessL l G ++ l) N = chosenL obj l N := by
  have h : rkd obj (setL (lessL l G ++ l)) = rkd obj (setL l) := rkd_congr fun i hi => by
    unfold setL lessL
    rw [Bool.eq_iff_iff, List.contains_iff_mem, List.contains_iff_mem, List.mem_append, List.mem_filter]
    constructor
    · rintro (h | h)
      · exact h.1
      · exact h
    · exact .inr
  unfold chosenL
  rw [h]
theorem less_succ (l : List Int) (G : Int) (k : Nat) (hk : k < l.length) : lessL (l.take (k + 1)) G = if l.getD k 0 = G then lessL (l.take k) G else lessL (l.take k) G ++ [l.getD k 0] := by
  have e : l.getD k 0 = l[k] := by rw [List.getD_eq_getElem?_getD, List.getElem?_eq_getElem hk]; rfl
  unfold lessL
  rw [List.take_succ_eq_append_getElem hk, List.filter_append, e]
  by_cases h : l[k] = G
  · rw [if_pos h, List.filter_cons_of_neg (by simpa using h)]
    simp
  · rw [if_neg h, List.filter_cons_of_pos (by simpa using h)]
    simp
end Go.Proofs.YtjgiiciniplbnaaGreatDoor

namespace Go.Proofs.YtjgiiciniplbnaaGreatDoor
open Go Go.RowKit Go.Lib Go.Sort Go.Shelf
set_option linter.unusedVariables false

/-- a claim is in the list just where the maps have it -/
def Rel (J : Jt) (R : List Clm) : Prop := ∀ (obj : List Nat) (kl : Lit), obj.length = 32 → (∀ y ∈ obj, y < 256) → keyOf Tryz.prog 23 (.agg (u8s obj).toArray) = some kl → ∀ (p : Nat), p < 16 → ∀ t, vj J kl p = some t ↔ (⟨obj, p, t⟩ : Clm) ∈ R
theorem u8s_inj {a b : List Nat} (h : (Value.agg (u8s a).toArray) = .agg (u8s b).toArray) : a = b := by
  simp only [Value.agg.injEq] at h
  have h2 : u8s a = u8s b := by simpa using h
  unfold u8s at h2
  have hinj : ∀ x y : Nat, Value.int .u8 (x : Int) = Value.int .u8 (y : Int) → x = y := fun x y e => by
    simp only [Value.int.injEq, true_and] at e
    omega
  exact List.map_inj_right (fun x y e => hinj x y e) |>.1 h2
theorem key_same {a b : List Nat} {k l : Lit} (ha : keyOf Tryz.prog 23 (.agg (u8s a).toArray) = some k) (hb : keyOf Tryz.prog 23 (.agg (u8s b).toArray) = some l) : k = l ↔ a = b :=
  ⟨fun e => u8s_inj (keyedD.inj ha (by rw [e]; exact hb)), fun e => by subst e; rw [ha] at hb; exact Option.some.inj hb⟩
theorem Rel.empty : Rel (fun _ => none) [] := fun obj kl _ _ _ p _ t => by
  constructor
  · intro h; cases h
  · intro h; cases h
theorem Rel.sweep {J J' : Jt} {R : List Clm} {clock : Int} (h : Rel J R) (hv : ∀ kl p, vj J' kl p = sw clock (vj J kl p)) : Rel J' (R.filter fun c => curr c.t clock) := fun obj kl ho hb hk p hp t => by
  rw [hv kl p, List.mem_filter, ← h obj kl ho hb hk p hp t]
  unfold sw
  cases e : vj J kl p with
  | none => simp
  | some u =>
    by_cases hc : curr u clock = true
    · simp only [hc, if_true, Option.some.injEq]
      constructor
      · rintro rfl; exact ⟨rfl, hc⟩
      · exact fun h => h.1
    · have hc2 : curr u clock = false := by simpa using hc
      simp only [hc2]
      constructor
      · intro h; simp at h
      · rintro ⟨h1, h2⟩
        simp only [Option.some.injEq] at h1
        subst h1
        rw [hc2] at h2
        cases h2
theorem Rel.note {J J' : Jt} {R : List Clm} {obj : List Nat} {kl : Lit} {p : Nat} {t : Int} (h : Rel J R) (hk : keyOf Tryz.prog 23 (.agg (u8s obj).toArray) = some kl) (h1 : ∀ q, vj J' kl q = if q = p then some t else vj J kl q) (h2 : ∀ z, z ≠ kl → ∀ q, vj J' z q = vj J z q) : Rel J' (R.filter (fNote obj p) ++ [⟨obj, p, t⟩]) := fun o2 k2 ho hb hk2 q hq u => by
  rw [List.mem_append, List.mem_filter, List.mem_singleton, ← h o2 k2 ho hb hk2 q hq u]
  have hf : fNote obj p ⟨o2, q, u⟩ = !(decide (o2 = obj) && decide (q = p)) := rfl
  rw [hf]
  by_cases hkl : k2 = kl
  · have ho2 : o2 = obj := (key_same hk2 hk).1 hkl
    subst ho2
    subst hkl
    rw [h1 q]
    by_cases hqp : q = p
    · subst hqp
      simp [eq_comm]
    · simp [hqp]
  · have ho2 : o2 ≠ obj := fun e => hkl ((key_same hk2 hk).2 e)
    rw [h2 k2 hkl q]
    simp [ho2]
theorem Rel.blocked {J : Jt} {R : List Clm} (h : Rel J R) (hR : ∀ c ∈ R, c.Ok) {obj : List Nat} {kl : Lit} (ho : obj.length = 32) (hb : ∀ y ∈ obj, y < 256) (hk : keyOf Tryz.prog 23 (.agg (u8s obj).toArray) = some kl) (self clock : Int) (ll lh : List Int) : blkJ (vj J kl) obj self clock ll lh = R.any (hitC obj self clock ll lh) := by
  rw [Bool.eq_iff_iff]
  unfold blkJ
  rw [List.any_eq_true, List.any_eq_true]
  constructor
  · rintro ⟨p, hp, hh⟩
    unfold hitB at hh
    cases e : vj J kl p with
    | none => rw [e] at hh; cases hh
    | some t =>
      rw [e] at hh
      refine ⟨⟨obj, p, t⟩, (h obj kl ho hb hk p (List.mem_range.1 hp) t).1 e, ?_⟩
      unfold setL at hh
      unfold hitC
      simp only [Bool.and_eq_true, Bool.not_eq_true', decide_eq_true_eq] at hh ⊢
      exact ⟨⟨⟨⟨trivial, hh.1.1.1⟩, hh.2⟩, hh.1.1.2⟩, hh.1.2⟩
  · rintro ⟨c, hc, hh⟩
    unfold hitC at hh
    simp only [Bool.and_eq_true, Bool.not_eq_true', decide_eq_true_eq] at hh
    obtain ⟨⟨⟨⟨h1, h2⟩, h3⟩, h4⟩, h5⟩ := hh
    have hp := (hR c hc).hp
    obtain ⟨od, p, t⟩ := c
    dsimp only at h1 h2 h3 h4 h5 hp
    subst h1
    refine ⟨p, List.mem_range.2 hp, ?_⟩
    have e := (h od kl ho hb hk p hp t).2 hc
    unfold hitB setL
    rw [e]
    simp only [Bool.and_eq_true, Bool.not_eq_true', decide_eq_true_eq]
    exact ⟨⟨⟨h2, h4⟩, h5⟩, h3⟩
theorem Rel.mem {J : Jt} {R : List Clm} (h : Rel J R) {obj : List Nat} {kl : Lit} (ho : obj.length = 32) (hb : ∀ y ∈ obj, y < 256) (hk : keyOf Tryz.prog 23 (.agg (u8s obj).toArray) = some kl) (p : Nat) (hp : p < 16) : setL (clsI obj R) p = (vj J kl p).isSome := by
  rw [Bool.eq_iff_iff]
  unfold setL clsI
  rw [List.contains_iff_mem, List.mem_map, Option.isSome_iff_exists]
  constructor
  · rintro ⟨c, hc, e⟩
    obtain ⟨h1, h2⟩ := List.mem_filter.1 hc
    obtain ⟨od, q, t⟩ := c
    have hq : q = p := by dsimp only at e; omega
    have hod : od = obj := by simpa using h2
    subst hq
    subst hod
    exact ⟨t, (h od kl ho hb hk q hp t).2 h1⟩
  · rintro ⟨t, e⟩
    exact ⟨⟨obj, p, t⟩, List.mem_filter.2 ⟨(h obj kl ho hb hk p hp t).1 e, by simp⟩, rfl⟩
/-- the claimants of an object with claims -/
theorem claimants_same {w : World} {N ib ni : Nat} {DI : DataW Unit} {J : Jt} {R : List Clm} (h : Rel J R) {obj : List Nat} {kl : Lit} (ho : obj.length = 32) (hb : ∀ y ∈ obj, y < 256) (hk : keyOf Tryz.prog 23 (.agg (u8s obj).toArray) = some kl) (hI : InM w N ib ni DI) (hv : ∀ p, p < 16 → (vj J kl p).isSome = Maps.has DI (.int .i64 (p : Int))) {ss : List Int} (hS : ss.Perm (intKeys DI)) :
    ss.mergeSort (fun x y => decide (x ≤ y)) = (memb (setL (clsI obj R)) 16).map Int.ofNat := by
  have hmem : ∀ x : Int, x ∈ (memb (setL (clsI obj R)) 16).map Int.ofNat ↔ Maps.has DI (.int .i64 x) = true := fun x => by
    rw [List.mem_map]
    constructor
    · rintro ⟨p, hp, rfl⟩
      have h1 := List.mem_filter.1 hp
      have h2 := List.mem_range.1 h1.1
      have h3 := h1.2
      rw [h.mem ho hb hk p h2, hv p h2] at h3
      exact h3
    · intro hx
      obtain ⟨p, hp, e⟩ := hI.keys _ hx
      simp only [Lit.int.injEq, true_and] at e
      subst e
      refine ⟨p, List.mem_filter.2 ⟨List.mem_range.2 hp, ?_⟩, rfl⟩
      rw [h.mem ho hb hk p hp, hv p hp]
      exact hx
  have hsort : ((memb (setL (clsI obj R)) 16).map Int.ofNat).Pairwise (fun x y => decide (x ≤ y) = true) := by
    refine List.pairwise_map.2 ?_
    refine List.Pairwise.imp (R := fun a b : Nat => a < b) (fun {a b} hab => by simp; omega) ?_
    exact List.Pairwise.filter _ (List.pairwise_lt_range)
  have hnd : ((memb (setL (clsI obj R)) 16).map Int.ofNat).Nodup := by
    refine List.pairwise_map.2 ?_
    refine List.Pairwise.imp (R := fun a b : Nat => a < b) (fun {a b} hab e => by simp at e; omega) ?_
    exact List.Pairwise.filter _ (List.pairwise_lt_range)
  obtain ⟨es, hes, hpw, hkl⟩ := hI.own.entries keyedI
  subst hes
  have hp := perm_intKeys hpw (fun q hq => by
    have hh : Maps.has (.map es) q.1 = true := List.any_eq_true.2 ⟨q, hq, WideAt.sameKey_self (hkl q hq)⟩
    obtain ⟨p, _, e⟩ := hI.keys _ hh
    exact ⟨_, e⟩) hnd hmem
  have h1 := mergeSort_of_perm_i (hS.trans hp.symm)
  have h2 : ((memb (setL (clsI obj R)) 16).map Int.ofNat).mergeSort leI = (memb (setL (clsI obj R)) 16).map Int.ofNat := List.mergeSort_of_pairwise hsort
  exact h1.trans h2
theorem claimants_none {J : Jt} {R : List Clm} (h : Rel J R) {obj : List Nat} {kl : Lit} (ho : obj.length = 32) (hb : ∀ y ∈ obj, y < 256) (hk : keyOf Tryz.prog 23 (.agg (u8s obj).toArray) = some kl) (hJ : J kl = none) : memb (setL (clsI obj R)) 16 = [] := by
  unfold memb
  rw [List.filter_eq_nil_iff]
  intro p hp
  rw [h.mem ho hb hk p (List.mem_range.1 hp), vj_none hJ]
  simp
/-- a map of clocks has a peer just where it says something -/
theorem vw_has {w : World} {N ib ni : Nat} {D : DataW Unit} (hI : InM w N ib ni D) (p : Nat) : (vw D p).isSome = Maps.has D (.int .i64 (p : Int)) := by
  cases hh : Maps.has D (.int .i64 (p : Int)) with
  | false => rw [vw_not_has hh]; rfl
  | true =>
    have hwp : keyOf Tryz.prog 3 (.int .i64 (p : Int)) = some (.int .i64 (p : Int)) := by
      obtain ⟨q, hq, e⟩ := hI.keys _ hh
      simp only [Lit.int.injEq, true_and] at e
      exact Maps.keyOf_int_mk Tryz.underlying3 (by
        have e1 : IntKind.i64.min = -9223372036854775808 := rfl
        have e2 : IntKind.i64.max = 9223372036854775807 := rfl
        simp only [Lit.wf, Bool.and_eq_true, decide_eq_true_eq]
        omega)
    obtain ⟨v, ps, h1, h2⟩ := hI.own.lookup keyedI Tryz.underlying132 (zeroU _) (zd := .lit (.int .u64 0)) (zp := []) (plainElem_int Tryz.underlying43 (by decide)) hwp
    obtain ⟨c, rfl, hy, _⟩ := plainElem_int_inv Tryz.underlying43 h2
    have e : D.atKey (.int .i64 (p : Int)) .nil = D.atKey (.int .i64 (p : Int)) (.lit (.int .u64 0)) := by
      cases D <;> try (cases hh; done)
      rename_i es
      obtain ⟨q, hq, hqk⟩ := List.any_eq_true.1 hh
      have hs : (es.find? (fun p' => p'.1.sameKey (.int .i64 (p : Int)))).isSome = true := List.find?_isSome.2 ⟨q, hq, hqk⟩
      obtain ⟨x, hx⟩ := Option.isSome_iff_exists.1 hs
      simp [DataW.atKey, hx]
    have h3 : D.atKey (.int .i64 (p : Int)) (.lit (.int .u64 0)) = .lit (.int .u64 c) := by simpa using congrArg Prod.fst hy
    rw [vw_at (e.trans h3)]
    rfl
end Go.Proofs.YtjgiiciniplbnaaGreatDoor

namespace Go.Proofs.YtjgiiciniplbnaaGreatDoor
open Go.ChangeShapes Go.WideShapes Go.ChangeAt Go.RowKit
set_option linter.unusedVariables false

theorem chunkD {l od : List Value} {n : Nat} (h : (l.drop 0).take n = od) (i : Nat) (hi : i < n) : l[i]? = od[i]? := by
  rw [← h, List.drop_zero, List.getElem?_take_of_lt hi]
/-- a slice of numbers that came in -/
def In (W : World) (a : Option Addr) (n c : Nat) (li : List Int) : Prop := Is W (.slice a n c) li ∧ n ≤ c ∧ (a = none → c = 0)
section
variable {H : Type} {enc : TypeId × Value → H} {W : World}

set_option maxRecDepth 100000 in
theorem open_live {base : Nat} {v : Value} {d : DataW H} {p : List MemPlace} (hval : Value.okWide Tryz.prog W .any base 93 v) (h : DataW.Trod enc Tryz.prog W 0 (fun _ => true) true 93 v d p) :
    ∃ (od : List Nat) (a0 : Option Addr) (n0 c0 : Nat) (l0 : List Int) (x1 : Int) (x2 : Int), v = .agg (u8s od ++ ([.slice a0 n0 c0, .int .i64 x1, .int .i64 x2] : List Value)).toArray ∧ od.length = 32 ∧ (∀ y ∈ od, y < 256) ∧ In W a0 n0 c0 l0 ∧ (Lit.int .i64 x1).wf = true ∧ (Lit.int .i64 x2).wf = true := by
  obtain ⟨cs, rfl, hsz⟩ := okWide_struct Tryz.underlying93 hval
  rw [show Tryz.prog.cellsOf 93 = 35 from by kernel_rfl] at hsz
  obtain ⟨l⟩ := cs
  have hl : l.length = 35 := by simpa using hsz
  obtain ⟨fuel, hf⟩ := h
  obtain ⟨xs, n, rfl, _, _, hxl, hg⟩ := DataW.trod_struct Tryz.underlying93 hf
  match xs, hxl with
  | [y0, y1, y2, y3], _ =>
  have g0 := hg 0 _ rfl
  have g1 := hg 1 _ rfl
  have g2 := hg 2 _ rfl
  have g3 := hg 3 _ rfl
  obtain ⟨od, f0, ho1, ho2⟩ := open_arr32D g0 (by simp [show Tryz.prog.cellsOf 23 = 32 from by kernel_rfl, Value.cells, hl])
  obtain ⟨a0, n0, c0, l0, f1, w0⟩ := open_is g1
  obtain ⟨x1, f2, _, w1⟩ := DataW.trod_int Tryz.underlying3 g2
  obtain ⟨x2, f3, _, w2⟩ := DataW.trod_int Tryz.underlying3 g3
  have r0 : ∀ i, i < 32 → l[i]? = (u8s od)[i]? := fun i hi => chunkD f0 i hi
  have r1 : l[32]? = some (.slice a0 n0 c0) := chunkL f1
  have r2 : l[33]? = some (.int .i64 x1) := chunkL f2
  have r3 : l[34]? = some (.int .i64 x2) := chunkL f3
  refine ⟨od, a0, n0, c0, l0, x1, x2, ?_, ho1, ho2, w0, w1, w2⟩
  congr 2
  apply List.ext_getElem?
  intro i
  by_cases hi : i < 35
  · by_cases h32 : i < 32
    · rw [r0 i h32, List.getElem?_append_left (by simp [u8s, ho1]; omega)]
    · rw [List.getElem?_append_right (by simp [u8s, ho1]; omega)]
      rcases (show i = 32 ∨ i = 33 ∨ i = 34 from by omega) with rfl | rfl | rfl
      · rw [r1]; simp [u8s, ho1]
      · rw [r2]; simp [u8s, ho1]
      · rw [r3]; simp [u8s, ho1]
  · rw [List.getElem?_eq_none (by omega), List.getElem?_eq_none (by simp [u8s, ho1]; omega)]
set_option maxRecDepth 100000 in
theorem open_settled {base : Nat} {v : Value} {d : DataW H} {p : List MemPlace} (hval : Value.okWide Tryz.prog W .any base 97 v) (h : DataW.Trod enc Tryz.prog W 0 (fun _ => true) true 97 v d p) :
    ∃ (od : List Nat) (a0 : Option Addr) (n0 c0 : Nat) (l0 : List Int) (a1 : Option Addr) (n1 c1 : Nat) (l1 : List Int) (x2 : Int), v = .agg (u8s od ++ ([.slice a0 n0 c0, .slice a1 n1 c1, .int .i64 x2] : List Value)).toArray ∧ od.length = 32 ∧ (∀ y ∈ od, y < 256) ∧ In W a0 n0 c0 l0 ∧ In W a1 n1 c1 l1 ∧ (Lit.int .i64 x2).wf = true := by
  obtain ⟨cs, rfl, hsz⟩ := okWide_struct Tryz.underlying97 hval
  rw [show Tryz.prog.cellsOf 97 = 35 from by kernel_rfl] at hsz
  obtain ⟨l⟩ := cs
  have hl : l.length = 35 := by simpa using hsz
  obtain ⟨fuel, hf⟩ := h
  obtain ⟨xs, n, rfl, _, _, hxl, hg⟩ := DataW.trod_struct Tryz.underlying97 hf
  match xs, hxl with
  | [y0, y1, y2, y3], _ =>
  have g0 := hg 0 _ rfl
  have g1 := hg 1 _ rfl
  have g2 := hg 2 _ rfl
  have g3 := hg 3 _ rfl
  obtain ⟨od, f0, ho1, ho2⟩ := open_arr32D g0 (by simp [show Tryz.prog.cellsOf 23 = 32 from by kernel_rfl, Value.cells, hl])
  obtain ⟨a0, n0, c0, l0, f1, w0⟩ := open_is g1
  obtain ⟨a1, n1, c1, l1, f2, w1⟩ := open_is g2
  obtain ⟨x2, f3, _, w2⟩ := DataW.trod_int Tryz.underlying3 g3
  have r0 : ∀ i, i < 32 → l[i]? = (u8s od)[i]? := fun i hi => chunkD f0 i hi
  have r1 : l[32]? = some (.slice a0 n0 c0) := chunkL f1
  have r2 : l[33]? = some (.slice a1 n1 c1) := chunkL f2
  have r3 : l[34]? = some (.int .i64 x2) := chunkL f3
  refine ⟨od, a0, n0, c0, l0, a1, n1, c1, l1, x2, ?_, ho1, ho2, w0, w1, w2⟩
  congr 2
  apply List.ext_getElem?
  intro i
  by_cases hi : i < 35
  · by_cases h32 : i < 32
    · rw [r0 i h32, List.getElem?_append_left (by simp [u8s, ho1]; omega)]
    · rw [List.getElem?_append_right (by simp [u8s, ho1]; omega)]
      rcases (show i = 32 ∨ i = 33 ∨ i = 34 from by omega) with rfl | rfl | rfl
      · rw [r1]; simp [u8s, ho1]
      · rw [r2]; simp [u8s, ho1]
      · rw [r3]; simp [u8s, ho1]
  · rw [List.getElem?_eq_none (by omega), List.getElem?_eq_none (by simp [u8s, ho1]; omega)]
set_option maxRecDepth 100000 in
theorem open_case {base : Nat} {v : Value} {d : DataW H} {p : List MemPlace} (hval : Value.okWide Tryz.prog W .any base 31 v) (h : DataW.Trod enc Tryz.prog W 0 (fun _ => true) true 31 v d p) :
    ∃ (od : List Nat) (x0 : Int) (x1 : Int) (a2 : Option Addr) (n2 c2 : Nat) (l2 : List Int) (a3 : Option Addr) (n3 c3 : Nat) (l3 : List Int) (b4 : Bool) (b5 : Bool), v = .agg (u8s od ++ ([.int .i64 x0, .int .i64 x1, .slice a2 n2 c2, .slice a3 n3 c3, .bool b4, .bool b5] : List Value)).toArray ∧ od.length = 32 ∧ (∀ y ∈ od, y < 256) ∧ (Lit.int .i64 x0).wf = true ∧ (Lit.int .i64 x1).wf = true ∧ In W a2 n2 c2 l2 ∧ In W a3 n3 c3 l3 := by
  obtain ⟨cs, rfl, hsz⟩ := okWide_struct Tryz.underlying31 hval
  rw [show Tryz.prog.cellsOf 31 = 38 from by kernel_rfl] at hsz
  obtain ⟨l⟩ := cs
  have hl : l.length = 38 := by simpa using hsz
  obtain ⟨fuel, hf⟩ := h
  obtain ⟨xs, n, rfl, _, _, hxl, hg⟩ := DataW.trod_struct Tryz.underlying31 hf
  match xs, hxl with
  | [y0, y1, y2, y3, y4, y5, y6], _ =>
  have g0 := hg 0 _ rfl
  have g1 := hg 1 _ rfl
  have g2 := hg 2 _ rfl
  have g3 := hg 3 _ rfl
  have g4 := hg 4 _ rfl
  have g5 := hg 5 _ rfl
  have g6 := hg 6 _ rfl
  obtain ⟨od, f0, ho1, ho2⟩ := open_arr32D g0 (by simp [show Tryz.prog.cellsOf 23 = 32 from by kernel_rfl, Value.cells, hl])
  obtain ⟨x0, f1, _, w0⟩ := DataW.trod_int Tryz.underlying3 g1
  obtain ⟨x1, f2, _, w1⟩ := DataW.trod_int Tryz.underlying3 g2
  obtain ⟨a2, n2, c2, l2, f3, w2⟩ := open_is g3
  obtain ⟨a3, n3, c3, l3, f4, w3⟩ := open_is g4
  obtain ⟨b4, f5, _⟩ := DataW.trod_bool Tryz.underlying4 g5
  obtain ⟨b5, f6, _⟩ := DataW.trod_bool Tryz.underlying4 g6
  have r0 : ∀ i, i < 32 → l[i]? = (u8s od)[i]? := fun i hi => chunkD f0 i hi
  have r1 : l[32]? = some (.int .i64 x0) := chunkL f1
  have r2 : l[33]? = some (.int .i64 x1) := chunkL f2
  have r3 : l[34]? = some (.slice a2 n2 c2) := chunkL f3
  have r4 : l[35]? = some (.slice a3 n3 c3) := chunkL f4
  have r5 : l[36]? = some (.bool b4) := chunkL f5
  have r6 : l[37]? = some (.bool b5) := chunkL f6
  refine ⟨od, x0, x1, a2, n2, c2, l2, a3, n3, c3, l3, b4, b5, ?_, ho1, ho2, w0, w1, w2, w3⟩
  congr 2
  apply List.ext_getElem?
  intro i
  by_cases hi : i < 38
  · by_cases h32 : i < 32
    · rw [r0 i h32, List.getElem?_append_left (by simp [u8s, ho1]; omega)]
    · rw [List.getElem?_append_right (by simp [u8s, ho1]; omega)]
      rcases (show i = 32 ∨ i = 33 ∨ i = 34 ∨ i = 35 ∨ i = 36 ∨ i = 37 from by omega) with rfl | rfl | rfl | rfl | rfl | rfl
      · rw [r1]; simp [u8s, ho1]
      · rw [r2]; simp [u8s, ho1]
      · rw [r3]; simp [u8s, ho1]
      · rw [r4]; simp [u8s, ho1]
      · rw [r5]; simp [u8s, ho1]
      · rw [r6]; simp [u8s, ho1]
  · rw [List.getElem?_eq_none (by omega), List.getElem?_eq_none (by simp [u8s, ho1]; omega)]
set_option maxRecDepth 100000 in
theorem open_lease {base : Nat} {v : Value} {d : DataW H} {p : List MemPlace} (hval : Value.okWide Tryz.prog W .any base 111 v) (h : DataW.Trod enc Tryz.prog W 0 (fun _ => true) true 111 v d p) :
    ∃ (od : List Nat) (x0 : Int) (x1 : Int) (x2 : Int) (x3 : Int), v = .agg (u8s od ++ ([.int .i64 x0, .int .i64 x1, .int .u64 x2, .int .u64 x3] : List Value)).toArray ∧ od.length = 32 ∧ (∀ y ∈ od, y < 256) ∧ (Lit.int .i64 x0).wf = true ∧ (Lit.int .i64 x1).wf = true ∧ (Lit.int .u64 x2).wf = true ∧ (Lit.int .u64 x3).wf = true := by
  obtain ⟨cs, rfl, hsz⟩ := okWide_struct Tryz.underlying111 hval
  rw [show Tryz.prog.cellsOf 111 = 36 from by kernel_rfl] at hsz
  obtain ⟨l⟩ := cs
  have hl : l.length = 36 := by simpa using hsz
  obtain ⟨fuel, hf⟩ := h
  obtain ⟨xs, n, rfl, _, _, hxl, hg⟩ := DataW.trod_struct Tryz.underlying111 hf
  match xs, hxl with
  | [y0, y1, y2, y3, y4], _ =>
  have g0 := hg 0 _ rfl
  have g1 := hg 1 _ rfl
  have g2 := hg 2 _ rfl
  have g3 := hg 3 _ rfl
  have g4 := hg 4 _ rfl
  obtain ⟨od, f0, ho1, ho2⟩ := open_arr32D g0 (by simp [show Tryz.prog.cellsOf 23 = 32 from by kernel_rfl, Value.cells, hl])
  obtain ⟨x0, f1, _, w0⟩ := DataW.trod_int Tryz.underlying3 g1
  obtain ⟨x1, f2, _, w1⟩ := DataW.trod_int Tryz.underlying3 g2
  obtain ⟨x2, f3, _, w2⟩ := DataW.trod_int Tryz.underlying43 g3
  obtain ⟨x3, f4, _, w3⟩ := DataW.trod_int Tryz.underlying43 g4
  have r0 : ∀ i, i < 32 → l[i]? = (u8s od)[i]? := fun i hi => chunkD f0 i hi
  have r1 : l[32]? = some (.int .i64 x0) := chunkL f1
  have r2 : l[33]? = some (.int .i64 x1) := chunkL f2
  have r3 : l[34]? = some (.int .u64 x2) := chunkL f3
  have r4 : l[35]? = some (.int .u64 x3) := chunkL f4
  refine ⟨od, x0, x1, x2, x3, ?_, ho1, ho2, w0, w1, w2, w3⟩
  congr 2
  apply List.ext_getElem?
  intro i
  by_cases hi : i < 36
  · by_cases h32 : i < 32
    · rw [r0 i h32, List.getElem?_append_left (by simp [u8s, ho1]; omega)]
    · rw [List.getElem?_append_right (by simp [u8s, ho1]; omega)]
      rcases (show i = 32 ∨ i = 33 ∨ i = 34 ∨ i = 35 from by omega) with rfl | rfl | rfl | rfl
      · rw [r1]; simp [u8s, ho1]
      · rw [r2]; simp [u8s, ho1]
      · rw [r3]; simp [u8s, ho1]
      · rw [r4]; simp [u8s, ho1]
  · rw [List.getElem?_eq_none (by omega), List.getElem?_eq_none (by simp [u8s, ho1]; omega)]
end
end Go.Proofs.YtjgiiciniplbnaaGreatDoor

namespace Go.Proofs.YtjgiiciniplbnaaGreatDoor
open Go Go.RowKit Go.Lib Go.Sort
set_option linter.unusedVariables false

structure NtQ where
  kd : Int
  od : List Nat
  pr : Int
  sf : Int
  ck : Int
  nw : Int
  la : Option Addr
  ln : Nat
  lc : Nat
  ll : List Int
  oa : Option Addr
  on : Nat
  oc : Nat
  ol : List Int
  deriving Inhabited
def NtQ.cells (q : NtQ) : List Value := ([.int .i64 q.kd] : List Value) ++ (u8s q.od ++ ([.int .i64 q.pr, .int .i64 q.sf, .int .u64 q.ck, .int .u64 q.nw, .slice q.la q.ln q.lc, .slice q.oa q.on q.oc] : List Value))
structure NtQ.In (q : NtQ) (W : World) : Prop where
  ho : q.od.length = 32
  hb : ∀ y ∈ q.od, y < 256
  hp : (Lit.int .i64 q.pr).wf = true
  hc : (Lit.int .u64 q.ck).wf = true
  hn : (Lit.int .u64 q.nw).wf = true
  hl : Go.Proofs.YtjgiiciniplbnaaGreatDoor.In W q.la q.ln q.lc q.ll
  hq : Go.Proofs.YtjgiiciniplbnaaGreatDoor.In W q.oa q.on q.oc q.ol
theorem NtQ.cells_length (q : NtQ) (h : q.od.length = 32) : q.cells.length = 39 := by simp [NtQ.cells, u8s, h]
theorem NtQ.at0 (q : NtQ) : q.cells[0]? = some (.int .i64 q.kd) := rfl
theorem NtQ.atD (q : NtQ) (h : q.od.length = 32) (j : Nat) (hj : j < 32) : q.cells[1 + j]? = (u8s q.od)[j]? := by
  unfold NtQ.cells
  rw [List.getElem?_append_right (by simp), List.getElem?_append_left (by simp [u8s, h] <;> omega)]
  first | rfl | simp
theorem NtQ.at_ (q : NtQ) (h : q.od.length = 32) (j : Nat) : q.cells[33 + j]? = ([.int .i64 q.pr, .int .i64 q.sf, .int .u64 q.ck, .int .u64 q.nw, .slice q.la q.ln q.lc, .slice q.oa q.on q.oc] : List Value)[j]? := by
  unfold NtQ.cells
  rw [List.getElem?_append_right (by simp <;> omega), List.getElem?_append_right (by simp [u8s, h] <;> omega)]
  congr 1
  simp [u8s, h]
  try omega
theorem NtQ.one (q : NtQ) : ∀ u ∈ q.cells, u.oneCell' = true := fun u hu => by
  unfold NtQ.cells at hu
  rcases List.mem_append.1 hu with h | h
  · simp only [List.mem_cons, List.not_mem_nil, or_false] at h; rw [h]; rfl
  · rcases List.mem_append.1 h with h | h
    · exact u8s_oneH _ u h
    · simp only [List.mem_cons, List.not_mem_nil, or_false] at h
      rcases h with rfl | rfl | rfl | rfl | rfl | rfl <;> rfl
section
open Go.ChangeShapes Go.WideShapes Go.ChangeAt
variable {H : Type} {enc : TypeId × Value → H} {W : World}
set_option maxRecDepth 100000 in
theorem open_ntL {fuel : Nat} {l : List Value} {x : DataW H × List MemPlace} (hf : DataW.trod enc Tryz.prog W 0 (fun _ => true) true fuel 45 l = some x) (hl : l.length = 39) : ∃ q : NtQ, l = q.cells ∧ q.In W := by
  obtain ⟨xs, n, rfl, _, _, hxl, hg⟩ := DataW.trod_struct Tryz.underlying45 hf
  match xs, hxl with
  | [y0, y1, y2, y3, y4, y5, y6, y7], _ =>
  have g0 := hg 0 _ rfl
  have g1 := hg 1 _ rfl
  have g2 := hg 2 _ rfl
  have g3 := hg 3 _ rfl
  have g4 := hg 4 _ rfl
  have g5 := hg 5 _ rfl
  have g6 := hg 6 _ rfl
  have g7 := hg 7 _ rfl
  obtain ⟨kd, f0, _, w0⟩ := DataW.trod_int Tryz.underlying3 g0
  obtain ⟨od, f1, ho1, ho2⟩ := open_arr32D g1 (by simp [show Tryz.prog.cellsOf 23 = 32 from by kernel_rfl, hl])
  obtain ⟨pr, f2, _, w2⟩ := DataW.trod_int Tryz.underlying3 g2
  obtain ⟨sf, f3, _, w3⟩ := DataW.trod_int Tryz.underlying3 g3
  obtain ⟨ck, f4, _, w4⟩ := DataW.trod_int Tryz.underlying43 g4
  obtain ⟨nw, f5, _, w5⟩ := DataW.trod_int Tryz.underlying43 g5
  obtain ⟨la, ln, lc, ll, f6, w6⟩ := open_is g6
  obtain ⟨oa, on, oc, ol, f7, w7⟩ := open_is g7
  refine ⟨⟨kd, od, pr, sf, ck, nw, la, ln, lc, ll, oa, on, oc, ol⟩, ?_, ⟨ho1, ho2, w2, w4, w5, w6, w7⟩⟩
  have r0 : l[0]? = some (.int .i64 kd) := chunkL f0
  have r2 : l[33]? = some (.int .i64 pr) := chunkL f2
  have r3 : l[34]? = some (.int .i64 sf) := chunkL f3
  have r4 : l[35]? = some (.int .u64 ck) := chunkL f4
  have r5 : l[36]? = some (.int .u64 nw) := chunkL f5
  have r6 : l[37]? = some (.slice la ln lc) := chunkL f6
  have r7 : l[38]? = some (.slice oa on oc) := chunkL f7
  have r1 : ∀ j, j < 32 → l[1 + j]? = (u8s od)[j]? := fun j hj => by
    have h1 : (l.drop 1).take 32 = u8s od := f1
    rw [← h1, List.getElem?_take_of_lt hj, List.getElem?_drop]
  apply List.ext_getElem?
  intro j
  have hc := NtQ.cells_length ⟨kd, od, pr, sf, ck, nw, la, ln, lc, ll, oa, on, oc, ol⟩ ho1
  by_cases h39 : j < 39
  · by_cases h0 : j = 0
    · subst h0; rw [r0]; rfl
    · by_cases h33 : j < 33
      · obtain ⟨i, rfl⟩ : ∃ i, j = 1 + i := ⟨j - 1, by omega⟩
        rw [r1 i (by omega), NtQ.atD _ ho1 i (by omega)]
      · obtain ⟨i, rfl⟩ : ∃ i, j = 33 + i := ⟨j - 33, by omega⟩
        rw [NtQ.at_ _ ho1 i]
        rcases (show i = 0 ∨ i = 1 ∨ i = 2 ∨ i = 3 ∨ i = 4 ∨ i = 5 from by omega) with rfl | rfl | rfl | rfl | rfl | rfl
        · exact r2
        · exact r3
        · exact r4
        · exact r5
        · exact r6
        · exact r7
  · rw [List.getElem?_eq_none (by omega), List.getElem?_eq_none (by omega)]
/-- a script that came in -/
def Nts (W : World) (a : Option Addr) (n : Nat) (q : Nat → NtQ) : Prop :=
  0 < n → ∃ b o, a = some ⟨b, o, none⟩ ∧ b < W.heap.size ∧ ∀ i, i < n → (q i).In W ∧ ∀ j, j < 39 → W.cell? ⟨b, o + i * 39 + j, none⟩ = (q i).cells[j]?
set_option maxRecDepth 100000 in
theorem open_notes {fuel : Nat} {cs : List Value} {x : DataW H × List MemPlace} (h : DataW.trod enc Tryz.prog W 0 (fun _ => true) true fuel 39 cs = some x) : ∃ a n c q, cs = [.slice a n c] ∧ Nts W a n q := by
  rcases Deep.open_slice Tryz.underlying39 h with ⟨hcs, _⟩ | ⟨a, len, cap, m, n, D, Pl, hcs, _, hl, _, hm, _, hx⟩
  · exact ⟨none, 0, 0, fun _ => ⟨0, [], 0, 0, 0, 0, none, 0, 0, [], none, 0, 0, []⟩, hcs, fun h => absurd h (Nat.lt_irrefl 0)⟩
  · have ce : Tryz.prog.cellsOf 45 = 39 := by kernel_rfl
    have each : ∀ i, i < len → ∃ q : NtQ, q.In W ∧ ∀ j, j < 39 → W.cell? (a.add (i * 39 + j)) = q.cells[j]? := fun i hi => by
      obtain ⟨cs', h1, h2⟩ := hx i (by rw [hm]; split <;> omega)
      rw [ce] at h1
      obtain ⟨_, hlen, hcell⟩ := World.cells?_some h1
      obtain ⟨q, h3, h4⟩ := open_ntL h2 hlen
      refine ⟨q, h4, fun j hj => ?_⟩
      have h5 := hcell j (by omega)
      rw [Deep.add_add] at h5
      rw [h5, h3]
    obtain ⟨q, hq⟩ := Deep.choose_lt each
    refine ⟨some a, len, cap, q, hcs, fun h0 => ?_⟩
    obtain ⟨b, o, spot⟩ := a
    have hc := (hq 0 h0).2 0 (by omega)
    have hc2 : (q 0).cells[0]? = some (.int .i64 (q 0).kd) := rfl
    rw [hc2] at hc
    have hsp := World.cell?_spot hc
    have hspot : spot = none := by simpa [Addr.add] using hsp
    subst hspot
    have hb := World.block_lt_of_cell? _ _ hc
    rw [add_none] at hb
    refine ⟨b, o, rfl, hb, fun i hi => ⟨(hq i hi).1, fun j hj => ?_⟩⟩
    have h1 := (hq i hi).2 j hj
    rw [add_none] at h1
    rw [Nat.add_assoc]
    exact h1
end
theorem In.belowW {W W' : World} {a : Option Addr} {n c : Nat} {l : List Int} (h : In W a n c l) (k : Below W.heap.size W W') : In W' a n c l := ⟨h.1.belowP k, h.2⟩
theorem NtQ.In.below {q : NtQ} {W W' : World} (h : q.In W) (k : Below W.heap.size W W') : q.In W' := ⟨h.ho, h.hb, h.hp, h.hc, h.hn, h.hl.belowW k, h.hq.belowW k⟩
theorem Nts.belowW {W W' : World} {a : Option Addr} {n : Nat} {q : Nat → NtQ} (h : Nts W a n q) (k : Below W.heap.size W W') : Nts W' a n q := fun hn => by
  obtain ⟨b, o, ha, hb, hc⟩ := h hn
  exact ⟨b, o, ha, Nat.lt_of_lt_of_le hb k.size, fun i hi => ⟨(hc i hi).1.below k, fun j hj => (k.cell hb).trans ((hc i hi).2 j hj)⟩⟩
end Go.Proofs.YtjgiiciniplbnaaGreatDoor
