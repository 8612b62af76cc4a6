/-
  Hex: a digest as digits.
-/
import Derived.Test.YtafkjfpmjhfofaaDoorSch
import Derived.Test.YtafkjfpmjhfofaaDoorStr
import Derived.Test.YtafkjfpmjhfofaaDoorMore
import Derived.Lib.Tables
namespace Go.Proofs.YtafkjfpmjhfofaaDoor
open Go Go.RowKit
set_option linter.unusedVariables false

def hexD : List Nat := [48, 49, 50, 51, 52, 53, 54, 55, 56, 57, 97, 98, 99, 100, 101, 102]
def hexL (d : List Nat) : Nat → List Nat | 0 => [] | i + 1 => hexL d i ++ [hexD.getD (d.getD i 0 / 16) 0, hexD.getD (d.getD i 0 % 16) 0]
theorem hexL_length (d : List Nat) : ∀ i, (hexL d i).length = 2 * i | 0 => rfl | i + 1 => by simp [hexL, hexL_length d i]; omega
theorem hexD_lt (k : Nat) : hexD.getD k 0 < 256 := by
  rw [List.getD_eq_getElem?_getD]
  by_cases h : k < hexD.length
  · rw [List.getElem?_eq_getElem h]
    have : ∀ x ∈ hexD, x < 256 := by decide
    exact this _ (List.getElem_mem h)
  · rw [List.getElem?_eq_none (by omega)]; decide
theorem hexL_lt (d : List Nat) : ∀ i, ∀ x ∈ hexL d i, x < 256
  | 0, x, h => absurd h List.not_mem_nil
  | i + 1, x, h => by
    rcases List.mem_append.1 h with h | h
    · exact hexL_lt d i x h
    · simp only [List.mem_cons, List.not_mem_nil, or_false] at h
      rcases h with rfl | rfl <;> exact hexD_lt _

theorem hex_at (k : Nat) (hk : k < 16) (w : World) : (Instr.index 9 (.string ⟨#[48, 49, 50, 51, 52, 53, 54, 55, 56, 57, 97, 98, 99, 100, 101, 102]⟩) (.int .u8 (k : Int))).run Tryd.prog w = .ok (.int .u8 ((hexD.getD k 0 : Nat) : Int)) w := by
  have hsz : (⟨#[48, 49, 50, 51, 52, 53, 54, 55, 56, 57, 97, 98, 99, 100, 101, 102]⟩ : ByteArray).size = 16 := rfl
  rw [run_index_string w 9 _ .u8 (k : Int) Tryd.underlying9, dif_pos ⟨by omega, by rw [hsz]; omega⟩]
  have h16 : ∀ q : Fin 16, ((⟨#[48, 49, 50, 51, 52, 53, 54, 55, 56, 57, 97, 98, 99, 100, 101, 102]⟩ : ByteArray)[q.val]'(q.isLt)).toNat = hexD.getD q.val 0 := by decide
  exact congrArg (fun z : Nat => Result.ok (Value.int .u8 (z : Int)) w) (h16 ⟨k, hk⟩)

set_option maxRecDepth 100000 in
set_option maxHeartbeats 2000000 in
theorem Hex_any (d : List Nat) (hd : d.length = 32) (hdl : ∀ i, d.getD i 0 < 256) (w : World) :
    Calls Tryd.prog 36 #[.agg (u8s d).toArray] w fun e w' => e = .returned (.string (bstr (hexL d 32))) ∧ Below w.heap.size w w' := by
  have HD := hid hd
  have HDL := hid hdl
  obtain ⟨w1, hw1⟩ : ∃ w1, w1 = w.alloc (.cells (u8s d).toArray 24) := ⟨_, rfl⟩
  have hs1 : w1.heap.size = w.heap.size + 1 := by rw [hw1]; simp
  have hb1 : Below w.heap.size w w1 := by rw [hw1]; exact (Below.refl _ _).alloc (Nat.le_refl _) _
  have HO1 := hid (show w1.heap[w.heap.size]? = some (.cells (u8s d).toArray 24 (0, 0)) from by rw [hw1]; exact heap_new _ _)
  have hmk : (Instr.makeSlice 22 (.int .i64 0) (.int .i64 64)).run Tryd.prog w1 = .ok (.slice (some ⟨w1.heap.size, 0, none⟩) 0 64) (w1.alloc (zrow 64)) := mk_u8cH 0 64 (by omega) (by omega) w1
  have HB1 := hid hb1
  clear hd hdl
  go_enter Tryd.func36, Tryd.ntmps36
  go_wp2
  change Oper.upon _ _ _ _ _ ((Sem.run _ (Instr.makeSlice _ _ _) (w.alloc (.cells (u8s d).toArray 24))).andThen _)
  rw [← hw1, hmk]
  clear hw1 hmk
  have HIF := hid (show (Tryd.prog.info? 24).map (·.size) = some (u8s d).length from by rw [show (u8s d).length = 32 from by simp [u8s, HD.out]]; kernel_rfl)
  have HRA := hid (show (w1.alloc (zrow 64)).rangeAt w.heap.size 0 (u8s d) from fun j v hj => by
    rw [Nat.zero_add, cell_of_heap (heap_alloc HO1.out _), List.getElem?_toArray]
    exact hj)
  have HOW := hid (show (w1.alloc (zrow 64)).ownsRow w.heap.size 5 1 (.slice (some ⟨w.heap.size + 1, 0, none⟩) 0 64) 0 (u8s (hexL d 0)) from by rw [← hs1]; exact ⟨rfl, .inr ⟨w1.heap.size, 64, _, rfl, HB1.out.size, heap_new _ _, Nat.zero_le _, by decide, by simp [u8s], rfl⟩⟩)
  have HB2 := hid (HB1.out.alloc HB1.out.size (zrow 64))
  generalize hw2 : w1.alloc (zrow 64) = w2 at *
  clear hw2 hb1
  go_wp2_with (refine wpList_load_mid (by rfl) 24 (.tmp 1) (by rfl) w.heap.size 0 (by rfl) (u8s d) _ HRA.out Tryd.underlying24 rfl HIF.out ?_)
  clear HRA HIF HO1
  go_loopw [3, 8] (fun v iv wr => ∃ i : Nat, i ≤ 32 ∧ iv = .int .i64 i ∧ Hid (wr.ownsRow w.heap.size 5 1 v (2 * i) (u8s (hexL d i))) ∧ Hid (Below w.heap.size w wr)) (fun _ iv _ => 32 - (intOf iv).toNat)
  case atStart => exact ⟨0, by omega, rfl, HOW, HB2⟩
  case round =>
    clear HOW HB2
    obtain ⟨i, hi, rfl, HOW, HB⟩ := hrel
    by_cases hlt : i < 32
    · have hI : (i : Int) < 32 := by omega
      have hyl := HDL.out i
      have hidx : ∀ w, (Instr.index 24 (.agg (u8s d).toArray) (.int .i64 (i : Int))).run Tryd.prog w = .ok (.int .u8 ((d.getD i 0 : Nat) : Int)) w := by
        intro w
        have hT : Tryd.prog.underlying 24 = _ := Tryd.underlying24
        have hix : (u8s d)[i]? = some (.int .u8 ((d.getD i 0 : Nat) : Int)) := by
          have h9 : i < d.length := by rw [HD.out]; exact hlt
          simp [u8s, h9]
        simp [Instr.index, run_underlying Tryd.underlying24, hlt, hix, go_sem]
      have HST := hid (fun (_ : Unit) => (show hexL d (i + 1) = hexL d i ++ [hexD.getD (d.getD i 0 / 16) 0, hexD.getD (d.getD i 0 % 16) 0] from rfl))
      generalize d.getD i 0 = y at *
      have k1 := fun w => hex_at (y / 16) (by omega) w
      have k2 := fun w => hex_at (y % 16) (by omega) w
      have k3 : bits .and .u8 (y : Int) 15 = ((y % 16 : Nat) : Int) := by
        have h := u8_and_nat y 15 hyl (by omega)
        rw [Nat.and_two_pow_sub_one_eq_mod y 4] at h
        exact h
      have l1 := hexD_lt (y / 16)
      have l2 := hexD_lt (y % 16)
      have k4 : (y : Int) / 16 = ((y / 16 : Nat) : Int) := by omega
      generalize y / 16 = p at *
      generalize y % 16 = q at *
      generalize hexD.getD p 0 = x1 at *
      generalize hexD.getD q 0 = x2 at *
      have hx12 : ∀ n ∈ [x1, x2], n < 256 := fun n hn => by
        simp only [List.mem_cons, List.not_mem_nil, or_false] at hn
        rcases hn with rfl | rfl
        · exact l1
        · exact l2
      have HX := hid hx12
      have hsz := HB.out.size
      clear hx12 hyl
      go_wp2
      go_region_held3 (fun _ => True)
        (exact trivial)
        (first
          | (refine step_own_bytesH (by rfl) (.tmp 11) (.tmp 18) (by rfl) w.heap.size (2 * i) u3 (hexL d i) (by rfl) (by exact HOW.out.alloc _) (some ⟨wr.heap.size, 0, none⟩) 2 2 [x1, x2] (by rfl) (Own.bs (l := [x1, x2]) (heap_new _ _) HX.out 2) (fun h => by cases h) (by omega) (by simp; omega) ?_
             intro v5 w5 hown5 hg5
             have hb5 : Below w.heap.size w w5 := (bel_drewN (HB.out.alloc HB.out.size _) 1).grown hg5 (by simp; omega) (fun g hg => (HOW.out.lt g hg).1)
             rw [← HST.out (), show 2 * i + 2 = 2 * (i + 1) from by omega] at hown5
             have HO5 := hid hown5
             have HB5 := hid hb5))
      all_goals
        go_wp2
        exact ⟨⟨i + 1, by omega, by go_num, HO5, HB5⟩, by simp [intOf]; omega⟩
    · obtain rfl : i = 32 := by omega
      obtain ⟨av, cv, rfl, -, -, hbs, -⟩ := bs_of_owns HOW.out (hexL_lt d 32)
      have hcv := conv_bs hbs
      obtain ⟨X, hX⟩ : ∃ X, X = hexL d 32 := ⟨_, rfl⟩
      rw [← hX] at hcv
      have HXE := hid (fun (_ : Unit) => hX)
      clear hbs HOW hX
      go_wp2
      go_ret
      refine ⟨?_, HB.out⟩
      rw [← HXE.out ()]
      rfl
end Go.Proofs.YtafkjfpmjhfofaaDoor
