/-
  The reference's Digits.
-/
import Derived.Test.YthcgdpedjjhjpaaDoorPh
import Derived.Deep.QuietTactic
import Derived.BigQuiet
import Derived.Laws.Concat
namespace Go.Proofs.YthcgdpedjjhjpaaDoor
open Go Go.RowKit
set_option linter.unusedVariables false

def hexC : ByteArray := ⟨#[48, 49, 50, 51, 52, 53, 54, 55, 56, 57, 97, 98, 99, 100, 101, 102]⟩
theorem bstr_append (a b : List Nat) : bstr a ++ bstr b = bstr (a ++ b) := by
  apply ByteArray.ext
  unfold bstr
  simp
theorem hexL_one (d : List Nat) (i : Nat) : bstr (hexL d i) ++ (bstr [hexD.getD (d.getD i 0 / 16) 0] ++ bstr [hexD.getD (d.getD i 0 % 16) 0]) = bstr (hexL d (i + 1)) := by
  rw [bstr_append, bstr_append]
  rfl
/-- the digits from place k on -/
def suf (k : Nat) : ByteArray := hexC.extract k 16
theorem suf_one : ∀ q : Fin 16, (suf q.val).extract 0 1 = bstr [hexD.getD q.val 0] ∧ 1 ≤ (suf q.val).size := by decide +kernel
theorem bstr_size (l : List Nat) : (bstr l).size = l.length := by simp [bstr, ByteArray.size]
theorem slice_hex (p : Nat) (hp : p < 16) (w : World) : (Instr.sliceAt 9 (.string ⟨#[48, 49, 50, 51, 52, 53, 54, 55, 56, 57, 97, 98, 99, 100, 101, 102]⟩) (some (.int .u8 (p : Int))) none none).run Tryd.prog w = .ok (.string (suf p)) w := by
  have hsz : (⟨#[48, 49, 50, 51, 52, 53, 54, 55, 56, 57, 97, 98, 99, 100, 101, 102]⟩ : ByteArray).size = 16 := rfl
  have u1 : (0 : Int) ≤ (p : Int) := by omega
  have u2 : (p : Int) ≤ 16 := by omega
  simp [go_sem, Tryd.underlying9, hsz, u1, u2, suf, hexC]
theorem slice_suf (p : Nat) (hp : p < 16) (w : World) : (Instr.sliceAt 9 (.string (suf p)) none (some (.int .i64 1)) none).run Tryd.prog w = .ok (.string (bstr [hexD.getD p 0])) w := by
  obtain ⟨h1, h2⟩ := suf_one ⟨p, hp⟩
  simp only at h1 h2
  have u2 : (1 : Int) ≤ ((suf p).size : Int) := by omega
  simp [go_sem, Tryd.underlying9, u2, h1]
set_option maxRecDepth 100000 in
set_option maxHeartbeats 2000000 in
theorem Digits_any (d : List Nat) (hd : d.length = 32) (hdl : ∀ i, d.getD i 0 < 256) (w : World) :
    Calls Tryd.prog 72 #[.agg (u8s d).toArray] w fun e w' => e = .returned (.string (bstr (hexL d 32))) ∧ Below w.heap.size w w' := by
  have HDL := hid hdl
  obtain ⟨w1, hw1⟩ : ∃ x, x = w.alloc (.cells (u8s d).toArray 52) := ⟨_, rfl⟩
  have HO1 := hid (show OwnD w1 w.heap.size d from by rw [hw1]; exact heap_new _ _)
  have HB1 := hid (show Below w.heap.size w w1 from by rw [hw1]; exact (Below.refl _ _).alloc (Nat.le_refl _) _)
  have H0 := hid (show bstr (hexL d 0) = ByteArray.empty from rfl)
  clear hdl
  go_enter Tryd.func72, Tryd.ntmps72
  go_wp2
  change Code.wp _ _ _ _ (w.alloc (.cells (u8s d).toArray 52))
  rw [← hw1]
  clear hw1
  go_loopw [3, 4] (fun sv iv wr => ∃ i : Nat, i ≤ 32 ∧ iv = .int .i64 i ∧ sv = .string (bstr (hexL d i)) ∧ Hid (OwnD wr w.heap.size d) ∧ Hid (Below w.heap.size w wr)) (fun _ iv _ => 32 - (intOf iv).toNat)
  case atStart => exact ⟨0, by omega, rfl, rfl, HO1, HB1⟩
  case round =>
    clear HO1 HB1
    obtain ⟨i, hi, rfl, rfl, HO, HB⟩ := hrel
    by_cases hlt : i < 32
    · have hI : (i : Int) < 32 := by omega
      have c1 : wr.cell? ⟨w.heap.size, i, none⟩ = some (.int .u8 ((d.getD i 0 : Nat) : Int)) := by
        rw [cell_of_heap HO.out]
        have h9 : i < d.length := by omega
        simp [u8s, h9]
      have hyl := HDL.out i
      have HST := hid (hexL_one d i)
      have hxs : (bstr (hexL d i)).size ≤ 64 := by rw [bstr_size, hexL_length]; omega
      obtain ⟨X, hX⟩ : ∃ X, X = bstr (hexL d i) := ⟨_, rfl⟩
      rw [← hX] at HST hxs ⊢
      clear hX
      obtain ⟨Y, hY⟩ : ∃ Y, Y = bstr (hexL d (i + 1)) := ⟨_, rfl⟩
      have HY := hid (fun (_ : Unit) => hY)
      rw [← hY] at HST
      clear hY
      generalize d.getD i 0 = y at *
      have k3 : bits .and .u8 (y : Int) 15 = ((y % 16 : Nat) : Int) := by
        have h := u8_and_nat y 15 hyl (by omega)
        rw [Nat.and_two_pow_sub_one_eq_mod y 4] at h
        exact h
      have k4 : (y : Int) / 16 = ((y / 16 : Nat) : Int) := by omega
      have p1 : y / 16 < 16 := by omega
      have p2 : y % 16 < 16 := by omega
      generalize y / 16 = p at *
      generalize y % 16 = q at *
      have s1 := slice_hex p p1
      have s2 := slice_hex q p2
      have s3 := slice_suf p p1
      have s4 := slice_suf q p2
      have z1 : (bstr [hexD.getD p 0]).size = 1 := by rw [bstr_size]; rfl
      have z2 : (bstr [hexD.getD q 0]).size = 1 := by rw [bstr_size]; rfl
      generalize bstr [hexD.getD p 0] = A1 at *
      generalize bstr [hexD.getD q 0] = A2 at *
      have e1 := fun w => run_string_add_sum (P := Tryd.prog) (w := w) A1 A2 (by omega)
      have zu : (A1 ++ A2).size = 2 := by rw [ByteArray.size_append]; omega
      have e2 := fun w => run_string_add_sum (P := Tryd.prog) (w := w) X (A1 ++ A2) (by omega)
      rw [HST.out] at e2
      generalize A1 ++ A2 = U at *
      clear z1 z2 zu hxs
      generalize suf p = B1 at *
      generalize suf q = B2 at *
      go_wp2
      go_quiet (fail)
      have HO2 := hid (show OwnD (wr.drewN nq) w.heap.size d from HO.out)
      have HB2 := hid (bel_drewN HB.out nq)
      go_wp2
      exact ⟨⟨i + 1, by omega, by go_num, by rw [HY.out ()], HO2, HB2⟩, by simp [intOf]; omega⟩
    · obtain rfl : i = 32 := by omega
      go_wp2
      go_ret
      exact ⟨rfl, HB.out⟩
end Go.Proofs.YthcgdpedjjhjpaaDoor
