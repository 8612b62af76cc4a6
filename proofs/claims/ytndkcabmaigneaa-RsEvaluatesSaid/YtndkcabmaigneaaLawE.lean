/-
  The walk of the law about values of polynomials.
-/
import Derived.Test.YtndkcabmaigneaaKnown
import Derived.Test.YtndkcabmaigneaaEval
import Derived.Test.YtndkcabmaigneaaApp
namespace Go.Proofs.Ytndkcabmaigneaa
open Go.RowKit

set_option maxRecDepth 100000 in
set_option maxHeartbeats 1000000 in
theorem evaluates_walk (W : World) (a : Option Addr) (n c : Nat) (l : List Nat) (hl : Bs W (.slice a n c) l) (_hc : n ≤ c) (hnil : a = none → c = 0) (x : Int) (hwx : (Lit.int .u8 x).wf = true) :
    Calls Try.prog 17 #[.slice a n c, .int .u8 x] W fun e w' => e = .returned (.bool true) ∧ Below W.heap.size W w' := by
  obtain ⟨x, rfl, hx⟩ : ∃ m : Nat, x = m ∧ m < 256 := by
    simp [Lit.wf] at hwx
    have e1 : IntKind.u8.min = 0 := rfl
    have e2 : IntKind.u8.max = 255 := rfl
    exact ⟨x.toNat, by omega, by omega⟩
  clear hwx
  by_cases hn : 4096 < n
  · go_enter Try.func17, Try.ntmps17
    go_wp2_with fail
    refine (known_any _).mono ?_
    rintro e w1 ⟨rfl, hb⟩
    go_wp2
    go_ret
    exact ⟨rfl, hb⟩
  · go_enter Try.func17, Try.ntmps17
    go_wp2_with fail
    refine (newField_any _).mono ?_
    rintro e w1 ⟨rfl, hfr, hb1⟩
    have hl1 := hl.below hb1
    have hf1 := lt_of_heap hfr
    go_wp2_with (refine wpList_clone rfl (.tmp 10) (.tmp 11) rfl w1.heap.size rfl ?hg0 a n c l rfl ?hb hnil (by omega) ?_)
    case hg0 => exact heap_new _ _
    case hb => exact hl1.alloc _
    intro a' c' w2 hl2 hnc' hlow _ hk2
    go_wp2_with fail
    have hsz : W.heap.size ≤ w1.heap.size := hb1.size
    have hfr2 : Fresh w2 W.heap.size := (hk2.block W.heap.size (by simp; omega) (by omega)).trans (heap_alloc hfr _)
    have hoff : Off W.heap.size (.slice a' n c') := by
      cases a' with
      | none => trivial
      | some ad => show ad.block ≠ W.heap.size; have := hlow ad rfl; omega
    have hb2 : Below W.heap.size W w2 := hb1.trans (((Below.refl _ _).alloc hsz _).trans (hk2.below (by simp; omega) hsz))
    refine (Eval_any W.heap.size a' n c' l x hx _ (.inl hfr2) hl2 hoff (by omega)).mono ?_
    rintro e w3 ⟨rfl, hB3, hk3⟩
    have hb3 : Below W.heap.size W w3 := hb2.trans (hk3.below hb2.size (Nat.le_refl _))
    have hl3 := hl.below hb3
    go_wp2_with fail
    refine (At_any a n c l x hx _ hl3 (by omega)).mono ?_
    rintro e w' ⟨rfl, rfl⟩
    go_wp2_with fail
    refine (known_any _).mono ?_
    rintro e w4 ⟨rfl, hb4⟩
    go_wp2
    go_ret
    exact ⟨rfl, hb3.trans (hb4.mono hb3.size)⟩
end Go.Proofs.Ytndkcabmaigneaa
