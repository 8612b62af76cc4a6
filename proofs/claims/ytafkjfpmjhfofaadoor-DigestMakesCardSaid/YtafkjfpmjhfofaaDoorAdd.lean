/-
  addScaled: a row of bytes plus a multiple of another one.
-/
import Derived.Test.YtafkjfpmjhfofaaDoorMul
import Derived.Test.YtafkjfpmjhfofaaDoorBytes
import Derived.Deep.RegionWith
import Derived.Deep.RegionHeld3
namespace Go.Proofs.YtafkjfpmjhfofaaDoor
open Go.RowKit

/-- the first k bytes from so on have got their multiple -/
def axTo (L : List Nat) (so : Nat) (bl : List Nat) (f : Nat) : Nat → List Nat
  | 0 => L
  | k + 1 => (axTo L so bl f k).set (so + k) ((axTo L so bl f k).getD (so + k) 0 ^^^ Gf.tm f (bl.getD k 0))
theorem axTo_length (L : List Nat) (so : Nat) (bl : List Nat) (f : Nat) : ∀ k, (axTo L so bl f k).length = L.length
  | 0 => rfl
  | k + 1 => by simp [axTo, axTo_length L so bl f k]
theorem axTo_getD (L : List Nat) (so : Nat) (bl : List Nat) (f : Nat) : ∀ k, so + k ≤ L.length → ∀ i, (axTo L so bl f k).getD i 0 = if so ≤ i ∧ i < so + k then L.getD i 0 ^^^ Gf.tm f (bl.getD (i - so) 0) else L.getD i 0
  | 0, _, i => by rw [if_neg (by omega)]; rfl
  | k + 1, hk, i => by
    have ih := axTo_getD L so bl f k (by omega)
    have hlen := axTo_length L so bl f k
    unfold axTo
    rw [List.getD_eq_getElem?_getD, List.getElem?_set]
    by_cases h : so + k = i
    · rw [if_pos h, if_pos (by omega), if_pos (by omega), ← h, ih, if_neg (by omega), show so + k - so = k from by omega]
      rfl
    · rw [if_neg h, ← List.getD_eq_getElem?_getD, ih]
      by_cases h2 : so ≤ i ∧ i < so + k
      · rw [if_pos h2, if_pos (by omega)]
      · rw [if_neg h2, if_neg (by omega)]

set_option maxRecDepth 100000 in
set_option maxHeartbeats 1000000 in
theorem addScaled_any (fb sb so n sc : Nat) (L : List Nat) (ba : Option Addr) (bb bo bn bc : Nat) (bl : List Nat) (f : Nat) (w : World) (hB : Built w fb) (hL : Own w sb L) (hfs : fb ≠ sb) (hso : so + n ≤ L.length) (hba : 0 < n → ba = some ⟨bb, bo, none⟩) (hbn : n ≤ bn) (hbl : bn ≤ 4611686018427387904) (hn : n ≤ 4611686018427387904) (hf : f < 256) (hbl2 : ∀ i, bl.getD i 0 < 256) (hL2 : ∀ i, L.getD i 0 < 256)
    (hrd : ∀ k, k < n → ∀ w', Own w' sb (axTo L so bl f k) → (∀ j, j < w.heap.size → j ≠ sb → w'.heap[j]? = w.heap[j]?) → w'.cell? ⟨bb, bo + k, none⟩ = some (.int .u8 (bl.getD k 0))) :
    Calls Tryd.prog 87 #[.pointer (some ⟨fb, 0, none⟩), .slice (some ⟨sb, so, none⟩) n sc, .slice ba bn bc, .int .u8 f] w fun e w' => e = .returned (.tuple #[]) ∧ Own w' sb (axTo L so bl f n) ∧ Kept sb w w' := by
  have HR := hid hrd
  have HA := hid hba
  have HL2 := hid hL2
  have HB2 := hid hbl2
  clear hrd hba hL2 hbl2
  go_enter Tryd.func87, Tryd.ntmps87
  go_wp2
  go_loopw [11] (fun i wr => ∃ k : Nat, k ≤ n ∧ i = .int .i64 k ∧ Own wr sb (axTo L so bl f k) ∧ Kept sb w wr) (fun i _ => n - (intOf i).toNat)
  case atStart => exact ⟨0, by omega, rfl, hL, Kept.refl _ _⟩
  case round =>
    obtain ⟨k, hk, rfl, hown, hkept⟩ := hrel
    have hBr : Built wr fb := (hkept.block fb hB.lt hfs).trans hB
    by_cases hlt : k < n
    · have ca := HA.out (by omega)
      subst ca
      have cb := HR.out k hlt wr hown hkept.block
      have cs := hown.cell (so + k) (by rw [axTo_length]; omega)
      have fs := hown.free (so + k)
      have lb := HB2.out k
      have ls : (axTo L so bl f k).getD (so + k) 0 < 256 := by
        rw [axTo_getD _ _ _ _ _ (by omega)]
        split
        · exact Gf.xor_lt (HL2.out _) (Gf.tm_lt _ _ hf)
        · exact HL2.out _
      have hst : axTo L so bl f (k + 1) = (axTo L so bl f k).set (so + k) ((axTo L so bl f k).getD (so + k) 0 ^^^ Gf.tm f (bl.getD k 0)) := rfl
      have HS := hid hst
      clear hst
      generalize hz : (axTo L so bl f k).getD (so + k) 0 = z at *
      have HZ := hid hz
      clear hz
      have hx := hid (u8_xor_nat z (Gf.tm f (bl.getD k 0)) ls (Gf.tm_lt _ _ hf))
      generalize bl.getD k 0 = y at *
      have hmul := fun w hB => mul_any fb f y hf lb w hB
      go_wp2
      go_region_with (go_at_call 98; refine (mul_any fb f y hf lb _ (by first | exact hBr | exact hBr.drewN _)).mono ?_; rintro e w' ⟨rfl, r, rfl⟩)
      all_goals
        go_wp2
        go_roundw
        case rel =>
          refine ⟨k + 1, by omega, by go_num, ?_, ?_⟩
          · rw [HS.out, hx.out]
            refine Own.set ?_ _ _
            exact hown
          · refine Kept.setCell (p := ⟨sb, so + k, none⟩) ?_ rfl _
            exact ⟨hkept.os, hkept.tape, hkept.output, hkept.size, hkept.block⟩
        case measure => simp [intOf]; omega
    · obtain rfl : k = n := by omega
      go_wp2
      go_end0
      exact ⟨rfl, hown, hkept⟩
theorem addScaled_bs (fb sb so n sc : Nat) (L : List Nat) (ba : Option Addr) (bc : Nat) (bl : List Nat) (f : Nat) (w : World) (hB : Built w fb) (hL : Own w sb L) (hfs : fb ≠ sb) (hso : so + n ≤ L.length) (hb : Bs w (.slice ba n bc) bl) (ho : 0 < n → Off sb (.slice ba n bc)) (hn : n ≤ 4611686018427387904) (hf : f < 256) (hL2 : ∀ i, L.getD i 0 < 256) :
    Calls Tryd.prog 87 #[.pointer (some ⟨fb, 0, none⟩), .slice (some ⟨sb, so, none⟩) n sc, .slice ba n bc, .int .u8 f] w fun e w' => e = .returned (.tuple #[]) ∧ Own w' sb (axTo L so bl f n) ∧ Kept sb w w' := by
  have hl := hb.len
  rcases hb.addr with ⟨h0, _⟩ | ⟨h0, bb, bo, c, hv⟩
  · have hn0 : n = 0 := by rw [hl, h0]; rfl
    exact addScaled_any fb sb so n sc L ba 0 0 n bc bl f w hB hL hfs hso (fun h => by omega) (Nat.le_refl _) hn hn hf hb.lt hL2 (fun k hk => by omega)
  · simp only [Value.slice.injEq] at hv
    obtain ⟨rfl, _, _⟩ := hv
    refine addScaled_any fb sb so n sc L _ bb bo n bc bl f w hB hL hfs hso (fun _ => rfl) (Nat.le_refl _) hn hn hf hb.lt hL2 (fun k hk w' _ hw' => ?_)
    have hc := hb.cell k (by omega)
    have hbs : bb ≠ sb := ho (by omega)
    have hlt := World.block_lt_of_cell? _ _ hc
    rw [World.cell?_of_block (w := w) (hw' bb hlt hbs)]
    exact hc
end Go.Proofs.YtafkjfpmjhfofaaDoor
