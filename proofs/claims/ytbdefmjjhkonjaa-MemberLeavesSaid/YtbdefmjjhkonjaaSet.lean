/-
  set: another entry for a peer; the times of suspicion.
-/
import Derived.Test.YtbdefmjjhkonjaaLv
namespace Go.Proofs.Ytbdefmjjhkonjaa
open Go Go.RowKit
set_option linter.unusedVariables false

/-- the times behind a set -/
def zset (L : List Ent) (Z : List Int) (ck : Int) (i : Nat) (e : Ent) : List Int := if e.2 = 2 ∧ e ≠ gd L i then Z.set i ck else Z
theorem Mc.tset {w : World} {mb tb sb n me : Nat} {L : List Ent} {Z : List Int} {ck : Int} {pv : Value} {last pg dare : Int} (h : Mc w mb tb sb n me L Z ck pv last pg dare) (i : Nat) (e : Ent) :
    Mc ((w.setCell ⟨tb, i * 2, none⟩ (.int .u64 e.1)).setCell ⟨tb, i * 2 + 1, none⟩ (.int .u8 e.2)) mb tb sb n me (L.set i e) Z ck pv last pg dare :=
  ⟨by rw [heap_set_other (fun e => h.mt e.symm), heap_set_other (fun e => h.mt e.symm)]; exact h.m, h.t.set i e, by rw [heap_set_other (fun e => h.ts e), heap_set_other (fun e => h.ts e)]; exact h.s, by simp [h.ln], h.zn, h.mt, h.ms, h.ts⟩
theorem Mc.below {w w' : World} {mb tb sb n me : Nat} {L : List Ent} {Z : List Int} {ck : Int} {pv : Value} {last pg dare : Int} (h : Mc w mb tb sb n me L Z ck pv last pg dare) (k : Below w.heap.size w w') : Mc w' mb tb sb n me L Z ck pv last pg dare :=
  ⟨(k.block _ (lt_of_heap h.m)).trans h.m, (k.block _ h.t.lt).trans h.t, (k.block _ (lt_of_heap h.s)).trans h.s, h.ln, h.zn, h.mt, h.ms, h.ts⟩
theorem Mc.drewN {w : World} {mb tb sb n me : Nat} {L : List Ent} {Z : List Int} {ck : Int} {pv : Value} {last pg dare : Int} (h : Mc w mb tb sb n me L Z ck pv last pg dare) (q : Nat) : Mc (w.drewN q) mb tb sb n me L Z ck pv last pg dare := h.below (bel_drewN (Below.refl _ _) q)

theorem Mc.since {w : World} {mb tb sb n me : Nat} {L : List Ent} {Z : List Int} {ck : Int} {pv : Value} {last pg dare : Int} (h : Mc w mb tb sb n me L Z ck pv last pg dare) (i : Nat) (hi : i < n) : w.cell? ⟨sb, i, none⟩ = some (.int .u64 (Z.getD i 0)) := by
  rw [cell_of_heap h.s]
  have hz := h.zn
  simp [u6, List.getElem?_eq_getElem (show i < Z.length by omega)]
theorem Mc.zset' {w : World} {mb tb sb n me : Nat} {L : List Ent} {Z : List Int} {ck : Int} {pv : Value} {last pg dare : Int} (h : Mc w mb tb sb n me L Z ck pv last pg dare) (i : Nat) (x : Int) :
    Mc (w.setCell ⟨sb, i, none⟩ (.int .u64 x)) mb tb sb n me L (Z.set i x) ck pv last pg dare :=
  ⟨by rw [heap_set_other (fun e => h.ms e.symm)]; exact h.m, by unfold Row; rw [heap_set_other (fun e => h.ts e.symm)]; exact h.t, by rw [heap_set h.s]; simp [u6, List.map_set], h.ln, by simp [h.zn], h.mt, h.ms, h.ts⟩
theorem ent_eql (x s x' s' : Int) (w : World) : (Op.equalIn 10000 36 (.agg #[.int .u64 x, .int .u8 s]) (.agg #[.int .u64 x', .int .u8 s'])).run Try.prog w = .ok ((x == x') && (s == s')) w := by
  have hS : Try.prog.underlying 36 = some (.struct (Try.prog.fieldsOf 36)) := by kernel_rfl
  have hp : Try.prog.stoodInHeld 36 = false := by kernel_rfl
  have hu := Try.underlying33
  have h8 := Try.underlying34
  have h36 := Try.underlying36
  rw [show (10000 : Nat) = 9999 + 1 from rfl, run_equalIn_agg w 9999 _ _ _ hS hp]
  cases h1 : (x == x') <;> cases h2 : (s == s') <;> simp [go_sem, Program.fieldsOf, h36, hu, h8, Op.eqFields, h1, h2]
  all_goals trace_state
theorem ent_neq (x s x' s' : Int) (w : World) : (Go.binOp .neq 36 (.agg #[.int .u64 x, .int .u8 s]) (.agg #[.int .u64 x', .int .u8 s'])).run Try.prog w = .ok (.bool (!((x == x') && (s == s')))) w := by
  rw [run_neq_struct, ent_eql]; rfl
set_option maxRecDepth 100000 in
set_option maxHeartbeats 1000000 in
theorem set_any {mb tb sb n me : Nat} {L : List Ent} {Z : List Int} {ck : Int} {pv : Value} {last pg dare : Int} (i : Nat) (x s : Int) (w : World) (h : Mc w mb tb sb n me L Z ck pv last pg dare) (hi : i < n) (hn : n ≤ 16) :
    Calls Try.prog 85 #[.pointer (some ⟨mb, 0, none⟩), .int .i64 i, .agg #[.int .u64 x, .int .u8 s]] w fun e w' => e = .returned (.tuple #[]) ∧
      Mc w' mb tb sb n me (L.set i (x, s)) (zset L Z ck i (x, s)) ck pv last pg dare ∧ Held [tb, sb] w w' := by
  have hbx : Below w.heap.size w (w.alloc (.cells #[.int .u64 x, .int .u8 s] 36)) := (Below.refl _ _).alloc (Nat.le_refl _) _
  have HX := hid (heap_new w (.cells #[.int .u64 x, .int .u8 s] 36))
  have HH := hid (Held.of_below (S := [tb, sb]) hbx)
  have hbt := h.t.lt
  have hbs := lt_of_heap h.s
  have hbm := lt_of_heap h.m
  have HM := hid (h.below hbx)
  have hmt := h.mt
  clear h hbx
  obtain ⟨w1, hw1⟩ : ∃ x1, x1 = w.alloc (.cells #[.int .u64 x, .int .u8 s] 36) := ⟨_, rfl⟩
  rw [← hw1] at HX HH HM
  obtain ⟨c0, c1, c2, c3, c4, c5, c6, c7⟩ := mch_cells HM.out.m
  obtain ⟨r0, r1⟩ := HM.out.t.cells i (by have := HM.out.ln; omega)
  have f0 := HM.out.t.free (i * 2)
  have f1 := HM.out.t.free (i * 2 + 1)
  have x0 : w1.cell? ⟨w.heap.size, 0, none⟩ = some (.int .u64 x) := by rw [cell_of_heap HX.out]; rfl
  have x1 : w1.cell? ⟨w.heap.size, 1, none⟩ = some (.int .u8 s) := by rw [cell_of_heap HX.out]; rfl
  by_cases h2 : s = 2
  · subst h2
    obtain ⟨x', hx'⟩ : ∃ y, y = (gd L i).1 := ⟨_, rfl⟩
    obtain ⟨s', hs'⟩ : ∃ y, y = (gd L i).2 := ⟨_, rfl⟩
    rw [← hx'] at r0
    rw [← hs'] at r1
    have hneq := fun w => ent_neq x 2 x' s' w
    have HG := hid (show gd L i = (x', s') by rw [hx', hs'])
    have hz0 : w1.cell? ⟨sb, i, none⟩ = some (.int .u64 (Z.getD i 0)) := HM.out.since i hi
    have z1 : w1.frozen? ⟨sb, i, none⟩ = false := free_of_heap HM.out.s i
    generalize Z.getD i 0 = zi at *
    have hgd : Try.prog.eqGuardType Try.prog.depth 36 = false := by kernel_rfl
    go_enter Try.func85, Try.ntmps85
    go_wp2_with fail
    rw [← hw1]
    clear hw1 hx' hs'
    cases hd : (!x == x' || !2 == s') with
    | false =>
      have HZ := hid (show zset L Z ck i (x, 2) = Z from by
        unfold zset
        rw [if_neg]
        rintro ⟨_, h⟩
        rw [HG.out] at h
        apply h
        simp at hd
        rw [hd.1, ← hd.2])
      go_quiet (fail)
      go_wp2_with fail
      go_region_with (fail)
      all_goals
        have HR := hid ((HM.out.drewN (nq + 1)).tset i (x, 2))
        have HK := hid (((HH.out.drewN (nq + 1)).setCell (p := ⟨tb, i * 2, none⟩) (by simp) (.int .u64 x)).setCell (p := ⟨tb, i * 2 + 1, none⟩) (by simp) (.int .u8 2))
        go_wp2_with fail
        go_end0
        exact ⟨rfl, by rw [HZ.out]; exact HR.out, HK.out⟩
    | true =>
      have HZ := hid (show zset L Z ck i (x, 2) = Z.set i ck from by
        unfold zset
        rw [if_pos]
        refine ⟨rfl, fun h => ?_⟩
        rw [HG.out] at h
        simp only [Prod.mk.injEq] at h
        rw [h.1, ← h.2] at hd
        simp at hd)
      go_quiet (fail)
      go_wp2_with fail
      go_region_with (fail)
      all_goals
        have HM2 := hid ((HM.out.drewN (nq + 1)).zset' i ck)
        have HH2 := hid ((HH.out.drewN (nq + 1)).setCell (p := ⟨sb, i, none⟩) (by simp) (.int .u64 ck))
        have HX2 := hid ((heap_set_other (w := w1.drewN (nq + 1)) (b := w.heap.size) (p := ⟨sb, i, none⟩) (by show sb ≠ _; omega) (.int .u64 ck)).trans HX.out)
        obtain ⟨w2, hw2⟩ : ∃ y, y = (w1.drewN (nq + 1)).setCell ⟨sb, i, none⟩ (.int .u64 ck) := ⟨_, rfl⟩
        rw [← hw2] at HM2 HH2 HX2 ⊢
        clear hw2 c0 c1 c2 c3 c4 c5 c6 c7 r0 r1 f0 f1 x0 x1 hz0 z1 hd hneq hgd
        obtain ⟨c0, c1, c2, c3, c4, c5, c6, c7⟩ := mch_cells HM2.out.m
        obtain ⟨r0, r1⟩ := HM2.out.t.cells i (by have := HM2.out.ln; omega)
        have f0 := HM2.out.t.free (i * 2)
        have f1 := HM2.out.t.free (i * 2 + 1)
        have x0 : w2.cell? ⟨w.heap.size, 0, none⟩ = some (.int .u64 x) := by rw [cell_of_heap HX2.out]; rfl
        have x1 : w2.cell? ⟨w.heap.size, 1, none⟩ = some (.int .u8 2) := by rw [cell_of_heap HX2.out]; rfl
        go_wp2_with fail
        go_region_with (fail)
        all_goals
          have HR := hid ((HM2.out.drewN 1).tset i (x, 2))
          have HK := hid (((HH2.out.drewN 1).setCell (p := ⟨tb, i * 2, none⟩) (by simp) (.int .u64 x)).setCell (p := ⟨tb, i * 2 + 1, none⟩) (by simp) (.int .u8 2))
          go_wp2_with fail
          go_end0
          exact ⟨rfl, by rw [HZ.out]; exact HR.out, HK.out⟩
  · have e2 : (s == 2) = false := by simpa using h2
    have HZ := hid (show zset L Z ck i (x, s) = Z from by unfold zset; rw [if_neg (fun h => h2 h.1)])
    clear h2
    go_enter Try.func85, Try.ntmps85
    go_wp2_with fail
    rw [← hw1]
    clear hw1
    go_quiet (fail)
    go_wp2_with fail
    go_region_with (fail)
    all_goals
      have HR := hid ((HM.out.drewN (nq + 1)).tset i (x, s))
      have HK := hid (((HH.out.drewN (nq + 1)).setCell (p := ⟨tb, i * 2, none⟩) (by simp) (.int .u64 x)).setCell (p := ⟨tb, i * 2 + 1, none⟩) (by simp) (.int .u8 s))
      go_wp2_with fail
      go_end0
      exact ⟨rfl, by rw [HZ.out]; exact HR.out, HK.out⟩
end Go.Proofs.Ytbdefmjjhkonjaa
