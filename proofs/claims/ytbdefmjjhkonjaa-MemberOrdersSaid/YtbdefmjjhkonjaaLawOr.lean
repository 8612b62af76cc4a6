/-
  MemberOrders, walked: Newer is a strict total order; Join returns the newer entry.
-/
import Derived.Test.YtbdefmjjhkonjaaKm
import Derived.Test.YtbdefmjjhkonjaaNw
import Derived.Deep.DeepCutAuto
namespace Go.Proofs.Ytbdefmjjhkonjaa
open Go Go.RowKit
set_option linter.unusedVariables false

theorem ent_eql' (x s x' s' : Int) (w : World) : (Go.binOp .eql 36 (.agg #[.int .u64 x, .int .u8 s]) (.agg #[.int .u64 x', .int .u8 s'])).run Try.prog w = .ok (.bool ((x == x') && (s == s'))) w := by
  rw [run_eql_struct, ent_eql]; rfl
theorem ent_beq_self (a : Ent) : ((a.1 == a.1) && (a.2 == a.2)) = true := by simp
theorem ent_beq_ne {x s x' s' : Int} (h : ((x, s) : Ent) ≠ (x', s')) : ((x == x') && (s == s')) = false := by
  rw [Bool.eq_false_iff]
  intro e
  simp at e
  exact h (by rw [e.1, e.2])
/-- the boxes of three entries -/
structure Box3 (w : World) (b0 b1 b2 : Nat) (a b c : Ent) : Prop where
  h0 : w.heap[b0]? = some (.cells #[.int .u64 a.1, .int .u8 a.2] 36 (0, 0))
  h1 : w.heap[b1]? = some (.cells #[.int .u64 b.1, .int .u8 b.2] 36 (0, 0))
  h2 : w.heap[b2]? = some (.cells #[.int .u64 c.1, .int .u8 c.2] 36 (0, 0))
theorem Box3.cells {w w' : World} {b0 b1 b2 : Nat} {a b c : Ent} (h : Box3 w b0 b1 b2 a b c) (k : Below w.heap.size w w') :
    w'.cell? ⟨b0, 0, none⟩ = some (.int .u64 a.1) ∧ w'.cell? ⟨b0, 1, none⟩ = some (.int .u8 a.2) ∧ w'.cell? ⟨b1, 0, none⟩ = some (.int .u64 b.1) ∧ w'.cell? ⟨b1, 1, none⟩ = some (.int .u8 b.2) ∧ w'.cell? ⟨b2, 0, none⟩ = some (.int .u64 c.1) ∧ w'.cell? ⟨b2, 1, none⟩ = some (.int .u8 c.2) := by
  have k0 := (k.block _ (lt_of_heap h.h0)).trans h.h0
  have k1 := (k.block _ (lt_of_heap h.h1)).trans h.h1
  have k2 := (k.block _ (lt_of_heap h.h2)).trans h.h2
  refine ⟨?_, ?_, ?_, ?_, ?_, ?_⟩
  · rw [cell_of_heap k0]; rfl
  · rw [cell_of_heap k0]; rfl
  · rw [cell_of_heap k1]; rfl
  · rw [cell_of_heap k1]; rfl
  · rw [cell_of_heap k2]; rfl
  · rw [cell_of_heap k2]; rfl
abbrev NwIs (a b : Ent) (v : Bool) : Prop := ∀ wx : World, Calls Try.prog 27 #[.agg #[.int .u64 a.1, .int .u8 a.2], .agg #[.int .u64 b.1, .int .u8 b.2]] wx fun e w' => e = .returned (.bool v) ∧ Below wx.heap.size wx w'
theorem nwIs {a b : Ent} {v : Bool} (h : nw a b = v) : NwIs a b v := fun wx => by have := Newer_any a.1 a.2 b.1 b.2 wx; rw [show nw (a.1, a.2) (b.1, b.2) = v from h] at this; exact this

set_option maxRecDepth 100000 in
set_option maxHeartbeats 4000000 in
theorem orders_walk (x1 s1 x2 s2 x3 s3 : Int) (w : World) : Calls Try.prog 4 #[.agg #[.int .u64 x1, .int .u8 s1], .agg #[.int .u64 x2, .int .u8 s2], .agg #[.int .u64 x3, .int .u8 s3]] w fun e w' => e = .returned (.bool true) ∧ Below w.heap.size w w' := by
  obtain ⟨w3, hw3⟩ : ∃ y, y = ((w.alloc (.cells #[.int .u64 x1, .int .u8 s1] 36)).alloc (.cells #[.int .u64 x2, .int .u8 s2] 36)).alloc (.cells #[.int .u64 x3, .int .u8 s3] 36) := ⟨_, rfl⟩
  have BX := hid (show Box3 w3 w.heap.size (w.heap.size + 1) (w.heap.size + 1 + 1) (x1, s1) (x2, s2) (x3, s3) from by
    rw [hw3]
    exact ⟨heap_alloc (heap_alloc (heap_new _ _) _) _, heap_alloc (heap_new_at _ _ (by simp)) _, heap_new_at _ _ (by simp)⟩)
  have HB3 := hid (show Below w.heap.size w w3 from by rw [hw3]; exact (((Below.refl _ _).alloc (Nat.le_refl _) _).alloc (by simp) _).alloc (by simp; omega) _)
  have HB := hid (Below.refl w3.heap.size w3)
  have hgd : Try.prog.eqGuardType Try.prog.depth 36 = false := by kernel_rfl
  have hneq := fun w => ent_neq x1 s1 x2 s2 w
  have Naa := hid (nwIs (nw_self (x1, s1)))
  obtain ⟨c0, c1, c2, c3, c4, c5⟩ := BX.out.cells (Below.refl _ _)
  simp only at c0 c1 c2 c3 c4 c5
  go_enter Try.func4, Try.ntmps4
  go_upto_region 1 with fail
  rw [← hw3]
  clear hw3
  have N21 := hid (nwIs (show nw (2, 1) (1, 4) = true from rfl))
  have hself := fun (x s : Int) w => (show (Go.binOp .eql 36 (.agg #[.int .u64 x, .int .u8 s]) (.agg #[.int .u64 x, .int .u8 s])).run Try.prog w = .ok (.bool true) w from by rw [ent_eql']; simp)
  have heql := fun w => ent_eql' x2 s2 x1 s1 w
  cases hp : nw (x1, s1) (x2, s2) with
  | true =>
    have Nab := hid (nwIs hp)
    have Nba := hid (nwIs (nw_asym hp))
    have hne : (!((x1 == x2) && (s1 == s2))) = true := by rw [ent_beq_ne (nw_ne hp)]; rfl
    rw [hne] at hneq
    clear hne heql
    have HJ := hid (fun wx => show Calls Try.prog 28 #[.agg #[.int .u64 x1, .int .u8 s1], .agg #[.int .u64 x2, .int .u8 s2]] wx (fun e w' => e = .returned (.agg #[.int .u64 x1, .int .u8 s1]) ∧ Below wx.heap.size wx w') from by have h := Join_any x1 s1 x2 s2 wx; rw [show jn (x1, s1) (x2, s2) = (x1, s1) from by simp [jn, nw_asym hp]] at h; exact h)
    cases hr : nw (x2, s2) (x3, s3) with
    | true =>
      have Nbc := hid (nwIs hr)
      have Nac := hid (nwIs (nw_trans hp hr))
      clear hp hr
      go_upto_region 6 with (first
            | (go_at_call 27; first | with_reducible refine (Naa.out _).mono ?_ | with_reducible refine (Nab.out _).mono ?_ | with_reducible refine (Nba.out _).mono ?_ | with_reducible refine (Nbc.out _).mono ?_ | with_reducible refine (Nac.out _).mono ?_
               rintro e wn ⟨rfl, hb⟩; have HB := hid (HB.out.trans (hb.mono HB.out.size)); clear hb c0 c1 c2 c3 c4 c5; obtain ⟨c0, c1, c2, c3, c4, c5⟩ := BX.out.cells HB.out; simp only at c0 c1 c2 c3 c4 c5)
            | (go_at_call 28; with_reducible refine (HJ.out _).mono ?_
               rintro e wj ⟨rfl, hb⟩; have HB := hid (HB.out.trans (hb.mono HB.out.size)); clear hb c0 c1 c2 c3 c4 c5; obtain ⟨c0, c1, c2, c3, c4, c5⟩ := BX.out.cells HB.out; simp only at c0 c1 c2 c3 c4 c5))
      have BX2 := hid (show Box3 (wj.alloc (.cells #[.int .u64 x1, .int .u8 s1] 36)) w.heap.size (w.heap.size + 1) wj.heap.size (x1, s1) (x2, s2) (x1, s1) from ⟨heap_alloc ((HB.out.block _ (lt_of_heap BX.out.h0)).trans BX.out.h0) _, heap_alloc ((HB.out.block _ (lt_of_heap BX.out.h1)).trans BX.out.h1) _, heap_new _ _⟩)
      have HB6 := hid (HB3.out.trans ((HB.out.alloc HB.out.size (.cells #[.int .u64 x1, .int .u8 s1] 36)).mono HB3.out.size))
      obtain ⟨w6, hw6⟩ : ∃ y, y = wj.alloc (.cells #[.int .u64 x1, .int .u8 s1] 36) := ⟨_, rfl⟩
      rw [← hw6] at BX2 HB6 ⊢
      clear hw6 c0 c1 c2 c3 c4 c5 HB
      have HB := hid (Below.refl w6.heap.size w6)
      obtain ⟨c0, c1, c2, c3, c4, c5⟩ := BX2.out.cells (Below.refl _ _)
      simp only at c0 c1 c2 c3 c4 c5
      go_wp2_with (first
            | (go_at_call 27; first | with_reducible refine (Naa.out _).mono ?_ | with_reducible refine (Nab.out _).mono ?_ | with_reducible refine (Nba.out _).mono ?_ | with_reducible refine (Nbc.out _).mono ?_ | with_reducible refine (Nac.out _).mono ?_ | with_reducible refine (N21.out _).mono ?_
               rintro e wn ⟨rfl, hb⟩; have HB := hid (HB.out.trans (hb.mono HB.out.size)); clear hb c0 c1 c2 c3 c4 c5; obtain ⟨c0, c1, c2, c3, c4, c5⟩ := BX2.out.cells HB.out; simp only at c0 c1 c2 c3 c4 c5)
            | (go_at_call 17; with_reducible refine (known_m _).mono ?_
               rintro e wk ⟨rfl, hb⟩; have HB := hid (HB.out.trans (hb.mono HB.out.size)); clear hb c0 c1 c2 c3 c4 c5; obtain ⟨c0, c1, c2, c3, c4, c5⟩ := BX2.out.cells HB.out; simp only at c0 c1 c2 c3 c4 c5))
      go_ret
      exact ⟨rfl, HB6.out.trans (HB.out.mono HB6.out.size)⟩
    | false =>
      have Nbc := hid (nwIs hr)
      have Nac := Nbc
      clear hp hr
      go_upto_region 6 with (first
            | (go_at_call 27; first | with_reducible refine (Naa.out _).mono ?_ | with_reducible refine (Nab.out _).mono ?_ | with_reducible refine (Nba.out _).mono ?_ | with_reducible refine (Nbc.out _).mono ?_ | with_reducible refine (Nac.out _).mono ?_
               rintro e wn ⟨rfl, hb⟩; have HB := hid (HB.out.trans (hb.mono HB.out.size)); clear hb c0 c1 c2 c3 c4 c5; obtain ⟨c0, c1, c2, c3, c4, c5⟩ := BX.out.cells HB.out; simp only at c0 c1 c2 c3 c4 c5)
            | (go_at_call 28; with_reducible refine (HJ.out _).mono ?_
               rintro e wj ⟨rfl, hb⟩; have HB := hid (HB.out.trans (hb.mono HB.out.size)); clear hb c0 c1 c2 c3 c4 c5; obtain ⟨c0, c1, c2, c3, c4, c5⟩ := BX.out.cells HB.out; simp only at c0 c1 c2 c3 c4 c5))
      have BX2 := hid (show Box3 (wj.alloc (.cells #[.int .u64 x1, .int .u8 s1] 36)) w.heap.size (w.heap.size + 1) wj.heap.size (x1, s1) (x2, s2) (x1, s1) from ⟨heap_alloc ((HB.out.block _ (lt_of_heap BX.out.h0)).trans BX.out.h0) _, heap_alloc ((HB.out.block _ (lt_of_heap BX.out.h1)).trans BX.out.h1) _, heap_new _ _⟩)
      have HB6 := hid (HB3.out.trans ((HB.out.alloc HB.out.size (.cells #[.int .u64 x1, .int .u8 s1] 36)).mono HB3.out.size))
      obtain ⟨w6, hw6⟩ : ∃ y, y = wj.alloc (.cells #[.int .u64 x1, .int .u8 s1] 36) := ⟨_, rfl⟩
      rw [← hw6] at BX2 HB6 ⊢
      clear hw6 c0 c1 c2 c3 c4 c5 HB
      have HB := hid (Below.refl w6.heap.size w6)
      obtain ⟨c0, c1, c2, c3, c4, c5⟩ := BX2.out.cells (Below.refl _ _)
      simp only at c0 c1 c2 c3 c4 c5
      go_wp2_with (first
            | (go_at_call 27; first | with_reducible refine (Naa.out _).mono ?_ | with_reducible refine (Nab.out _).mono ?_ | with_reducible refine (Nba.out _).mono ?_ | with_reducible refine (Nbc.out _).mono ?_ | with_reducible refine (Nac.out _).mono ?_ | with_reducible refine (N21.out _).mono ?_
               rintro e wn ⟨rfl, hb⟩; have HB := hid (HB.out.trans (hb.mono HB.out.size)); clear hb c0 c1 c2 c3 c4 c5; obtain ⟨c0, c1, c2, c3, c4, c5⟩ := BX2.out.cells HB.out; simp only at c0 c1 c2 c3 c4 c5)
            | (go_at_call 17; with_reducible refine (known_m _).mono ?_
               rintro e wk ⟨rfl, hb⟩; have HB := hid (HB.out.trans (hb.mono HB.out.size)); clear hb c0 c1 c2 c3 c4 c5; obtain ⟨c0, c1, c2, c3, c4, c5⟩ := BX2.out.cells HB.out; simp only at c0 c1 c2 c3 c4 c5))
      go_ret
      exact ⟨rfl, HB6.out.trans (HB.out.mono HB6.out.size)⟩
  | false =>
    cases hq : nw (x2, s2) (x1, s1) with
    | true =>
      have Nab := hid (nwIs hp)
      have Nba := hid (nwIs hq)
      have Nbb := hid (nwIs (nw_self (x2, s2)))
      have hne : (!((x1 == x2) && (s1 == s2))) = true := by rw [ent_beq_ne (fun e => nw_ne hq e.symm)]; rfl
      rw [hne] at hneq
      rw [ent_beq_ne (nw_ne hq)] at heql
      clear hne
      have HJ := hid (fun wx => show Calls Try.prog 28 #[.agg #[.int .u64 x1, .int .u8 s1], .agg #[.int .u64 x2, .int .u8 s2]] wx (fun e w' => e = .returned (.agg #[.int .u64 x2, .int .u8 s2]) ∧ Below wx.heap.size wx w') from by have h := Join_any x1 s1 x2 s2 wx; rw [show jn (x1, s1) (x2, s2) = (x2, s2) from by simp [jn, hq]] at h; exact h)
      clear hp hq
      go_upto_region 6 with (first
            | (go_at_call 27; first | with_reducible refine (Naa.out _).mono ?_ | with_reducible refine (Nab.out _).mono ?_ | with_reducible refine (Nba.out _).mono ?_ | with_reducible refine (Nbb.out _).mono ?_
               rintro e wn ⟨rfl, hb⟩; have HB := hid (HB.out.trans (hb.mono HB.out.size)); clear hb c0 c1 c2 c3 c4 c5; obtain ⟨c0, c1, c2, c3, c4, c5⟩ := BX.out.cells HB.out; simp only at c0 c1 c2 c3 c4 c5)
            | (go_at_call 28; with_reducible refine (HJ.out _).mono ?_
               rintro e wj ⟨rfl, hb⟩; have HB := hid (HB.out.trans (hb.mono HB.out.size)); clear hb c0 c1 c2 c3 c4 c5; obtain ⟨c0, c1, c2, c3, c4, c5⟩ := BX.out.cells HB.out; simp only at c0 c1 c2 c3 c4 c5))
      have BX2 := hid (show Box3 (wj.alloc (.cells #[.int .u64 x2, .int .u8 s2] 36)) w.heap.size (w.heap.size + 1) wj.heap.size (x1, s1) (x2, s2) (x2, s2) from ⟨heap_alloc ((HB.out.block _ (lt_of_heap BX.out.h0)).trans BX.out.h0) _, heap_alloc ((HB.out.block _ (lt_of_heap BX.out.h1)).trans BX.out.h1) _, heap_new _ _⟩)
      have HB6 := hid (HB3.out.trans ((HB.out.alloc HB.out.size (.cells #[.int .u64 x2, .int .u8 s2] 36)).mono HB3.out.size))
      obtain ⟨w6, hw6⟩ : ∃ y, y = wj.alloc (.cells #[.int .u64 x2, .int .u8 s2] 36) := ⟨_, rfl⟩
      rw [← hw6] at BX2 HB6 ⊢
      clear hw6 c0 c1 c2 c3 c4 c5 HB
      have HB := hid (Below.refl w6.heap.size w6)
      obtain ⟨c0, c1, c2, c3, c4, c5⟩ := BX2.out.cells (Below.refl _ _)
      simp only at c0 c1 c2 c3 c4 c5
      go_wp2_with (first
            | (go_at_call 27; first | with_reducible refine (Naa.out _).mono ?_ | with_reducible refine (Nab.out _).mono ?_ | with_reducible refine (Nba.out _).mono ?_ | with_reducible refine (Nbb.out _).mono ?_ | with_reducible refine (N21.out _).mono ?_
               rintro e wn ⟨rfl, hb⟩; have HB := hid (HB.out.trans (hb.mono HB.out.size)); clear hb c0 c1 c2 c3 c4 c5; obtain ⟨c0, c1, c2, c3, c4, c5⟩ := BX2.out.cells HB.out; simp only at c0 c1 c2 c3 c4 c5)
            | (go_at_call 17; with_reducible refine (known_m _).mono ?_
               rintro e wk ⟨rfl, hb⟩; have HB := hid (HB.out.trans (hb.mono HB.out.size)); clear hb c0 c1 c2 c3 c4 c5; obtain ⟨c0, c1, c2, c3, c4, c5⟩ := BX2.out.cells HB.out; simp only at c0 c1 c2 c3 c4 c5))
      go_ret
      exact ⟨rfl, HB6.out.trans (HB.out.mono HB6.out.size)⟩
    | false =>
      have he := nw_total hp hq
      simp only [Prod.mk.injEq] at he
      obtain ⟨rfl, rfl⟩ := he
      have Nab := hid (nwIs hp)
      have HJ := hid (fun wx => show Calls Try.prog 28 #[.agg #[.int .u64 x1, .int .u8 s1], .agg #[.int .u64 x1, .int .u8 s1]] wx (fun e w' => e = .returned (.agg #[.int .u64 x1, .int .u8 s1]) ∧ Below wx.heap.size wx w') from by have h := Join_any x1 s1 x1 s1 wx; rw [show jn (x1, s1) (x1, s1) = (x1, s1) from by simp [jn]] at h; exact h)
      have hne : (!((x1 == x1) && (s1 == s1))) = false := by simp
      rw [hne] at hneq
      clear hne heql hp hq
      go_upto_region 6 with (first
            | (go_at_call 27; first | with_reducible refine (Naa.out _).mono ?_ | with_reducible refine (Nab.out _).mono ?_
               rintro e wn ⟨rfl, hb⟩; have HB := hid (HB.out.trans (hb.mono HB.out.size)); clear hb c0 c1 c2 c3 c4 c5; obtain ⟨c0, c1, c2, c3, c4, c5⟩ := BX.out.cells HB.out; simp only at c0 c1 c2 c3 c4 c5)
            | (go_at_call 28; with_reducible refine (HJ.out _).mono ?_
               rintro e wj ⟨rfl, hb⟩; have HB := hid (HB.out.trans (hb.mono HB.out.size)); clear hb c0 c1 c2 c3 c4 c5; obtain ⟨c0, c1, c2, c3, c4, c5⟩ := BX.out.cells HB.out; simp only at c0 c1 c2 c3 c4 c5))
      have BX2 := hid (show Box3 (wj.alloc (.cells #[.int .u64 x1, .int .u8 s1] 36)) w.heap.size (w.heap.size + 1) wj.heap.size (x1, s1) (x1, s1) (x1, s1) from ⟨heap_alloc ((HB.out.block _ (lt_of_heap BX.out.h0)).trans BX.out.h0) _, heap_alloc ((HB.out.block _ (lt_of_heap BX.out.h1)).trans BX.out.h1) _, heap_new _ _⟩)
      have HB6 := hid (HB3.out.trans ((HB.out.alloc HB.out.size (.cells #[.int .u64 x1, .int .u8 s1] 36)).mono HB3.out.size))
      obtain ⟨w6, hw6⟩ : ∃ y, y = wj.alloc (.cells #[.int .u64 x1, .int .u8 s1] 36) := ⟨_, rfl⟩
      rw [← hw6] at BX2 HB6 ⊢
      clear hw6 c0 c1 c2 c3 c4 c5 HB
      have HB := hid (Below.refl w6.heap.size w6)
      obtain ⟨c0, c1, c2, c3, c4, c5⟩ := BX2.out.cells (Below.refl _ _)
      simp only at c0 c1 c2 c3 c4 c5
      go_wp2_with (first
            | (go_at_call 27; first | with_reducible refine (Naa.out _).mono ?_ | with_reducible refine (Nab.out _).mono ?_ | with_reducible refine (N21.out _).mono ?_
               rintro e wn ⟨rfl, hb⟩; have HB := hid (HB.out.trans (hb.mono HB.out.size)); clear hb c0 c1 c2 c3 c4 c5; obtain ⟨c0, c1, c2, c3, c4, c5⟩ := BX2.out.cells HB.out; simp only at c0 c1 c2 c3 c4 c5)
            | (go_at_call 17; with_reducible refine (known_m _).mono ?_
               rintro e wk ⟨rfl, hb⟩; have HB := hid (HB.out.trans (hb.mono HB.out.size)); clear hb c0 c1 c2 c3 c4 c5; obtain ⟨c0, c1, c2, c3, c4, c5⟩ := BX2.out.cells HB.out; simp only at c0 c1 c2 c3 c4 c5))
      go_ret
      exact ⟨rfl, HB6.out.trans (HB.out.mono HB6.out.size)⟩
end Go.Proofs.Ytbdefmjjhkonjaa
