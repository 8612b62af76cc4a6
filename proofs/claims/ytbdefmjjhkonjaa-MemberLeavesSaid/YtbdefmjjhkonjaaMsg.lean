/-
  Messages in memory; isPeer, accepts.
-/
import Derived.Test.YtbdefmjjhkonjaaLrn
import Derived.Test.YtbdefmjjhkonjaaTv
import Derived.Test.YtbdefmjjhkonjaaCls
namespace Go.Proofs.Ytbdefmjjhkonjaa
open Go Go.RowKit
set_option linter.unusedVariables false

/-- the cells of a message: what chapter 5 uses, and the rest -/
def msg (k f t s o g : Int) (tv : Value) (R : List Value) : List Value := [.int .u8 k, .int .i64 f, .int .i64 t, .int .u64 s, .int .i64 o, .int .i64 g, tv] ++ R
/-- the rest of a message that this chapter makes -/
def rest0 : List Value := [.slice none 0 0, .slice none 0 0, .int .i64 0] ++ List.replicate 32 (.int .u8 0) ++ [.slice none 0 0, .bool false] ++ List.replicate 32 (.int .u8 0) ++ [.int .i64 0, .int .i64 0, .int .i64 0, .int .i64 0] ++ List.replicate 32 (.int .u8 0) ++ [.slice none 0 0, .int .i64 0, .slice none 0 0, .int .i64 0]
theorem rest0_length : rest0.length = 109 := by kernel_rfl
theorem msg_length (k f t s o g : Int) (tv : Value) (R : List Value) : (msg k f t s o g tv R).length = 7 + R.length := by simp only [msg, List.length_append, List.length_cons, List.length_nil]
theorem msg_cells {w : World} {b : Nat} {k f t s o g : Int} {tv : Value} {R : List Value} {T : TypeId} (h : w.heap[b]? = some (.cells (msg k f t s o g tv R).toArray T (0, 0))) :
    w.cell? ⟨b, 0, none⟩ = some (.int .u8 k) ∧ w.cell? ⟨b, 1, none⟩ = some (.int .i64 f) ∧ w.cell? ⟨b, 2, none⟩ = some (.int .i64 t) ∧ w.cell? ⟨b, 3, none⟩ = some (.int .u64 s) ∧ w.cell? ⟨b, 4, none⟩ = some (.int .i64 o) ∧ w.cell? ⟨b, 5, none⟩ = some (.int .i64 g) ∧ w.cell? ⟨b, 6, none⟩ = some tv := by
  refine ⟨?_, ?_, ?_, ?_, ?_, ?_, ?_⟩ <;> rw [cell_of_heap h] <;> simp [msg]

theorem isPeer_yes {mb tb sb n me : Nat} {L : List Ent} {Z : List Int} {ck : Int} {pv : Value} {last pg dare : Int} (p : Nat) (w : World) (h : Mc w mb tb sb n me L Z ck pv last pg dare) (hp : p < n) :
    Calls Try.prog 87 #[.pointer (some ⟨mb, 0, none⟩), .int .i64 p] w fun e w' => e = .returned (.bool true) ∧ w' = w := by
  obtain ⟨c0, c1, c2, c3, c4, c5, c6, c7⟩ := mch_cells h.m
  clear h
  go_enter Try.func87, Try.ntmps87
  go_wp2
  go_ret
  exact ⟨by simp [], rfl⟩

set_option maxRecDepth 100000 in
set_option maxHeartbeats 2000000 in
theorem accepts_yes {mb tb sb n me : Nat} {L : List Ent} {Z : List Int} {ck : Int} {pv : Value} {last pg dare : Int} (k : Int) (f o : Nat) (s g : Int) (a : Option Addr) (c : Nat) (R : List Value) (T : List Ent) (w : World)
    (h : Mc w mb tb sb n me L Z ck pv last pg dare) (ht : Tb w (.slice a n c) T) (hv : vld T = true) (hk : k = 1 ∨ k = 2) (hf : f < n) (hfm : f ≠ me) (ho : o < n) (hme : me < n) (hn : n ≤ 16) :
    Calls Try.prog 78 #[.pointer (some ⟨mb, 0, none⟩), .agg (msg k f me s o g (.slice a n c) R).toArray] w fun e w' => e = .returned (.bool true) ∧ Below w.heap.size w w' := by
  obtain ⟨w1, hw1⟩ : ∃ y, y = w.alloc (.cells (msg k f me s o g (.slice a n c) R).toArray 56) := ⟨_, rfl⟩
  have hb1 : Below w.heap.size w w1 := by rw [hw1]; exact (Below.refl _ _).alloc (Nat.le_refl _) _
  have HM := hid (h.below hb1)
  have HT := hid (ht.below hb1)
  have hx : w1.heap[w.heap.size]? = some (.cells (msg k f me s o g (.slice a n c) R).toArray 56 (0, 0)) := by rw [hw1]; exact heap_new _ _
  obtain ⟨x0, x1, x2, x3, x4, x5, x6⟩ := msg_cells hx
  obtain ⟨c0, c1, c2, c3, c4, c5, c6, c7⟩ := mch_cells HM.out.m
  have HB := hid hb1
  have HV := hid (fun (wx : World) (hx : Tb wx (.slice a n c) T) => Valid_any a n c T wx hx (by omega))
  rw [hv] at HV
  have HX := hid hx
  have hxl := lt_of_heap hx
  clear h ht hx hb1 hv
  have e1 : ((f : Int) != (me : Int)) = true := by simp; omega
  have e2 : ((me : Int) == (me : Int)) = true := by simp
  have p0 : ∀ p : Cls (fun w' => Below w1.heap.size w1 w'), p.w.cell? ⟨mb, 0, none⟩ = some (.int .i64 me) := fun p => (mch_cells (HM.out.below p.h).m).1
  have p1 : ∀ p : Cls (fun w' => Below w1.heap.size w1 w'), p.w.cell? ⟨mb, 1, none⟩ = some (.slice (some ⟨tb, 0, none⟩) n n) := fun p => (mch_cells (HM.out.below p.h).m).2.1
  have p2 : ∀ p : Cls (fun w' => Below w1.heap.size w1 w'), p.w.cell? ⟨w.heap.size, 1, none⟩ = some (.int .i64 f) := fun p => (msg_cells ((p.h.block _ hxl).trans HX.out)).2.1
  have p3 : ∀ p : Cls (fun w' => Below w1.heap.size w1 w'), p.w.cell? ⟨w.heap.size, 2, none⟩ = some (.int .i64 me) := fun p => (msg_cells ((p.h.block _ hxl).trans HX.out)).2.2.1
  have p4 : ∀ p : Cls (fun w' => Below w1.heap.size w1 w'), p.w.cell? ⟨w.heap.size, 6, none⟩ = some (.slice a n c) := fun p => (msg_cells ((p.h.block _ hxl).trans HX.out)).2.2.2.2.2.2
  have hne : Nonempty (Cls fun w' => Below w1.heap.size w1 w') := ⟨⟨w1, Below.refl _ _⟩⟩
  rcases hk with rfl | rfl
  all_goals
    go_enter Try.func78, Try.ntmps78
    go_upto_region 1 with fail
    rw [← hw1]
    clear hw1
    go_wp2_with fail
    refine wp_region_class_lit (G := fun w' => Below w1.heap.size w1 w') (by kernel_rfl) (by kernel_rfl) (bel_drewN (Below.refl _ _) 1) ?_
    repeat (go_big_quiet_step (first
      | (go_at_call 87; refine Calls.cls_same (isPeer_yes _ _ (HM.out.below (Cls.h _)) ?_); assumption)
      | (go_at_call 22; exact Calls.cls (HV.out _ (HT.out.below (Cls.h _))))))
    refine wpQuiet_nil ?_
    rintro _ ⟨p, rfl⟩
    go_wp2
    go_ret
    exact ⟨rfl, HB.out.trans (p.h.mono HB.out.size)⟩
end Go.Proofs.Ytbdefmjjhkonjaa
