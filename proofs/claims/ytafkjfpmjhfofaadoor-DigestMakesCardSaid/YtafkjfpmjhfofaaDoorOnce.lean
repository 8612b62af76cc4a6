/-
  sync.Once of a Field: build makes the tables at its first call and does nothing later.
-/
import Derived.Test.YtafkjfpmjhfofaaDoorFill
import Derived.Defers
import Derived.RegionTactic
import Derived.RegionCalls
namespace Go.Proofs.YtafkjfpmjhfofaaDoor
open Go.RowKit

theorem disable (w : World) : (callFunc 111 #[]).run Tryd.prog w = .ok (.value (.tuple #[])) w := run_call_mark0 Tryd.func111 (by kernel_rfl) (by kernel_rfl) (by kernel_rfl) .disable (by kernel_rfl) w
theorem enable (w : World) : (callFunc 113 #[]).run Tryd.prog w = .ok (.value (.tuple #[])) w := run_call_mark0 Tryd.func113 (by kernel_rfl) (by kernel_rfl) (by kernel_rfl) .enable (by kernel_rfl) w
theorem acquire (a : Addr) (w : World) : (callFunc 114 #[.pointer (some a)]).run Tryd.prog w = .ok (.value (.tuple #[])) w := run_call_marked Tryd.func114 (by kernel_rfl) (by kernel_rfl) (by kernel_rfl) .acquire (by kernel_rfl) a w
theorem releaseMerge (a : Addr) (w : World) : (callFunc 116 #[.pointer (some a)]).run Tryd.prog w = .ok (.value (.tuple #[])) w := run_call_marked Tryd.func116 (by kernel_rfl) (by kernel_rfl) (by kernel_rfl) .releaseMerge (by kernel_rfl) a w

/-- '(*sync/atomic.Bool).Store(true)' as a deferred call: the cell holds 1. -/
theorem store_deferred (a : Addr) (x : Value) (u : FrameMode) (w : World) (hc : w.cell? a = some x) (hz : w.frozen? a = false) :
    CallsD Tryd.prog 105 #[.pointer (some a), .bool true] u w fun e u' w' => u' = u ∧ (e = .returned (.tuple #[]) ∧ w' = w.drew.setCell a (.int .u32 1)) := by
  have hc' : w.drew.cell? a = some x := by go_simp
  have hz' : w.drew.frozen? a = false := by go_simp
  have hst := run_call_store (P := Tryd.prog) Tryd.func109 (by kernel_rfl) (by kernel_rfl) (by kernel_rfl) (by kernel_rfl) (k := .u32) (y := 1) hc' hz'
  go_enter_d Tryd.func105, Tryd.ntmps105
  go_wp2
  go_region_calls
  all_goals (go_end0; exact ⟨rfl, rfl⟩)

set_option maxRecDepth 100000 in
/-- '(*sync.Mutex).Unlock' as a deferred call, the lock held and nobody waiting. -/
theorem unlock_deferred (a : Addr) (u : FrameMode) (w : World) (hc : w.cell? a = some (.int .i32 1)) (hz : w.frozen? a = false) :
    CallsD Tryd.prog 104 #[.pointer (some a)] u w fun e u' w' => u' = u ∧ (e = .returned (.tuple #[]) ∧ w' = w.setCell a (.int .i32 0)) := by
  have hd := disable
  have he := enable
  have hr := releaseMerge
  have hadd := run_call_add (P := Tryd.prog) Tryd.func117 (by kernel_rfl) (by kernel_rfl) (by kernel_rfl) .i32 (by kernel_rfl) (y := -1) (s := 0) hc hz (by simp [go_sem]; rfl)
  have hcv := run_convert_to_unsafe (P := Tryd.prog) (src := 155) (dst := 159) Tryd.underlying155 Tryd.underlying159 (by kernel_rfl) hc
  go_enter_d Tryd.func104, Tryd.ntmps104
  go_wp2
  go_end0
  go_wp2
  go_end0
  exact ⟨rfl, rfl⟩

set_option maxRecDepth 100000 in
/-- '(*sync.Mutex).Lock', the lock free. -/
theorem lock_free (a : Addr) (w : World) (hc : w.cell? a = some (.int .i32 0)) (hz : w.frozen? a = false) :
    Calls Tryd.prog 103 #[.pointer (some a)] w fun e w' => e = .returned (.tuple #[]) ∧ w' = w.setCell a (.int .i32 1) := by
  have hd := disable
  have he := enable
  have ha := acquire
  have hcas := run_call_cas_hit (P := Tryd.prog) Tryd.func112 (by kernel_rfl) (by kernel_rfl) (by kernel_rfl) .i32 (by kernel_rfl) (y := 1) hc hz
  have hc' : (w.setCell a (.int .i32 1)).cell? a = some (.int .i32 1) := World.cell?_setCell_same w a _ hc
  have hcv := run_convert_to_unsafe (P := Tryd.prog) (src := 155) (dst := 159) Tryd.underlying155 Tryd.underlying159 (by kernel_rfl) hc'
  go_enter Tryd.func103, Tryd.ntmps103
  go_wp2
  first | go_end0 | (simp only [Exit.inBlock, Exit.then]; refine bodyPost_ret (results_none rfl _ _ _) rfl ?_) | refine bodyPost_ret (results_none rfl _ _ _) rfl ?_
  go_wp2
  go_end0
  exact ⟨rfl, rfl⟩

theorem fcells_set0 (d m d' : Int) (tab : List Nat) : (fcells d m tab).setIfInBounds 0 (.int .u32 d') = fcells d' m tab := by simp [fcells]
theorem fcells_set1 (d m m' : Int) (tab : List Nat) : (fcells d m tab).setIfInBounds 1 (.int .i32 m') = fcells d m' tab := by simp [fcells]
theorem fcells_get0 (d m : Int) (tab : List Nat) : (fcells d m tab)[0]? = some (.int .u32 d) := by simp [fcells]
theorem fcells_get1 (d m : Int) (tab : List Nat) : (fcells d m tab)[1]? = some (.int .i32 m) := by simp [fcells]
theorem Fresh.locked {w : World} {b : Nat} (h : Fresh w b) : Filling (w.setCell ⟨b, 1, none⟩ (.int .i32 1)) b 0 := by
  have := heap_set h 1 (.int .i32 1)
  rw [fcells_set1] at this
  exact this
theorem Filling.done {w : World} {b : Nat} (h : Filling w b 255) : Built ((w.drew.setCell ⟨b, 0, none⟩ (.int .u32 1)).setCell ⟨b, 1, none⟩ (.int .i32 0)) b := by
  have h1 := heap_set (w := w.drew) h 0 (.int .u32 1)
  rw [fcells_set0] at h1
  have h2 := heap_set h1 1 (.int .i32 0)
  rw [fcells_set1] at h2
  exact h2

set_option maxRecDepth 100000 in
set_option maxHeartbeats 1600000 in
/-- '(*sync.Once).doSlow' of a Field whose tables are not built, called with its fill. -/
theorem slow_any (b : Nat) (w : World) (h : Fresh w b) :
    Calls Tryd.prog 96 #[.pointer (some ⟨b, 0, none⟩), .func (.func 84) #[.pointer (some ⟨b, 0, none⟩)] #[]] w fun e w' => e = .returned (.tuple #[]) ∧ Built w' b ∧ Kept b w w' := by
  have c0 : w.cell? ⟨b, 0, none⟩ = some (.int .u32 0) := (cell_of_heap h 0).trans (fcells_get0 _ _ _)
  have c1 : w.cell? ⟨b, 1, none⟩ = some (.int .i32 0) := (cell_of_heap h 1).trans (fcells_get1 _ _ _)
  have f0 : w.frozen? ⟨b, 0, none⟩ = false := free_of_heap h 0
  have f1 : w.frozen? ⟨b, 1, none⟩ = false := free_of_heap h 1
  have hF := h.locked
  have hl := run_call_load (P := Tryd.prog) Tryd.func102 (by kernel_rfl) (by kernel_rfl) (by kernel_rfl) .u32 (by kernel_rfl) (w := w.setCell ⟨b, 1, none⟩ (.int .i32 1)) (a := ⟨b, 0, none⟩) (x := 0) ((World.cell?_setCell_other _ ⟨b, 1, none⟩ ⟨b, 0, none⟩ _ (by simp)).trans c0)
  have hnot : ∀ (x : Bool) (w : World), (Op.unary .not (.bool x)).run Tryd.prog w = .ok (.bool (!x)) w := fun _ _ => rfl
  have hK1 : Kept b w (w.setCell ⟨b, 1, none⟩ (.int .i32 1)) := (Kept.refl b w).setCell rfl _
  clear h
  go_enter_defers Tryd.func96, Tryd.ntmps96
  go_wp2_with (first | (go_at_call 103; refine (lock_free ⟨b, 1, none⟩ _ (by go_simp) (by go_simp)).mono ?_; rintro e w' ⟨rfl, rfl⟩) | (go_at_call 95; go_in) | (go_at_call 84; refine (fill_any b _ hF).mono ?_; rintro e w2 ⟨rfl, hF2, hK2⟩))
  have d0 : w2.cell? ⟨b, 0, none⟩ = some (.int .u32 0) := (cell_of_heap hF2 0).trans (fcells_get0 _ _ _)
  have d1 : w2.cell? ⟨b, 1, none⟩ = some (.int .i32 1) := (cell_of_heap hF2 1).trans (fcells_get1 _ _ _)
  have g0 : w2.frozen? ⟨b, 0, none⟩ = false := free_of_heap hF2 0
  have g1 : w2.frozen? ⟨b, 1, none⟩ = false := free_of_heap hF2 1
  refine leaves_cons (f := 105) (args := #[.pointer (some ⟨b, 0, none⟩), .bool true]) (by simp) (by simp [go_sem]) ?_
  refine (store_deferred ⟨b, 0, none⟩ (.int .u32 0) .returning _ d0 g0).mono ?_
  rintro e u' w'' ⟨rfl, rfl, rfl⟩
  refine leaves_cons (f := 104) (args := #[.pointer (some ⟨b, 1, none⟩)]) (by simp [settle]) (by simp [go_sem]) ?_
  refine (unlock_deferred ⟨b, 1, none⟩ _ _ ?_ (by simp [g1])).mono ?_
  · refine (World.cell?_setCell_other _ ⟨b, 0, none⟩ ⟨b, 1, none⟩ _ (by simp)).trans ?_
    rw [World.cell?_drew]
    exact d1
  rintro e u' w'' ⟨rfl, rfl, rfl⟩
  have hfin := hF2.done
  have hkin := ((((hK1.trans hK2).drew).setCell (p := ⟨b, 0, none⟩) rfl (.int .u32 1))).setCell (p := ⟨b, 1, none⟩) rfl (.int .i32 0)
  simp [Leaves, settle, results, Tryd.results96]
  exact ⟨hfin, hkin⟩

/-- '(*sync.Once).Do' of a Field whose tables are not built. -/
theorem do_first (b : Nat) (w : World) (h : Fresh w b) :
    Calls Tryd.prog 83 #[.pointer (some ⟨b, 0, none⟩), .func (.func 84) #[.pointer (some ⟨b, 0, none⟩)] #[]] w fun e w' => e = .returned (.tuple #[]) ∧ Built w' b ∧ Kept b w w' := by
  have c0 : w.cell? ⟨b, 0, none⟩ = some (.int .u32 0) := (cell_of_heap h 0).trans (fcells_get0 _ _ _)
  have hl := run_call_load (P := Tryd.prog) Tryd.func102 (by kernel_rfl) (by kernel_rfl) (by kernel_rfl) .u32 (by kernel_rfl) c0
  have hnot : ∀ (x : Bool) (w : World), (Op.unary .not (.bool x)).run Tryd.prog w = .ok (.bool (!x)) w := fun _ _ => rfl
  go_enter Tryd.func83, Tryd.ntmps83
  go_wp2_with (first | (go_at_call 96; refine (slow_any b _ h).mono ?_; rintro e w' ⟨rfl, hb, hk⟩) | (go_at_call 95; go_in))
  go_end0
  exact ⟨rfl, hb, hk⟩

/-- '(*sync.Once).Do' of a Field with its tables: nothing is done. -/
theorem do_done (b : Nat) (fv : Value) (w : World) (h : Built w b) :
    Calls Tryd.prog 83 #[.pointer (some ⟨b, 0, none⟩), fv] w fun e w' => e = .returned (.tuple #[]) ∧ w = w' := by
  have c0 : w.cell? ⟨b, 0, none⟩ = some (.int .u32 1) := (cell_of_heap h 0).trans (fcells_get0 _ _ _)
  have hl := run_call_load (P := Tryd.prog) Tryd.func102 (by kernel_rfl) (by kernel_rfl) (by kernel_rfl) .u32 (by kernel_rfl) c0
  have hnot : ∀ (x : Bool) (w : World), (Op.unary .not (.bool x)).run Tryd.prog w = .ok (.bool (!x)) w := fun _ _ => rfl
  go_enter Tryd.func83, Tryd.ntmps83
  go_wp2
  go_end0
  exact ⟨rfl, rfl⟩

/-- build -/
theorem build_any (b : Nat) (w : World) (h : Fld w b) :
    Calls Tryd.prog 62 #[.pointer (some ⟨b, 0, none⟩)] w fun e w' => e = .returned (.tuple #[]) ∧ Built w' b ∧ Kept b w w' := by
  have hmf : ∀ (fn : Fn) (first cap : Array Value) (w : World), (Instr.makeFunc fn first cap).run Tryd.prog w = .ok (.func fn first cap) w := fun _ _ _ _ => rfl
  rcases h with h | h
  · go_enter Tryd.func62, Tryd.ntmps62
    go_wp2_with (go_at_call 83; refine (do_first b _ h).mono ?_; rintro e w' ⟨rfl, hb, hk⟩)
    go_end0
    exact ⟨rfl, hb, hk⟩
  · go_enter Tryd.func62, Tryd.ntmps62
    go_wp2_with (go_at_call 83; refine (do_done b _ _ h).mono ?_; rintro e w' ⟨rfl, rfl⟩)
    go_end0
    exact ⟨rfl, h, Kept.refl _ _⟩
end Go.Proofs.YtafkjfpmjhfofaaDoor
