/-
  The given arguments of chapter 5: an entry, a table.
-/
import Derived.Test.YtbdefmjjhkonjaaEb
import Derived.ProofKit
import Derived.OpenShut
import Derived.Deep.SlicePairs
namespace Go.Proofs.Ytbdefmjjhkonjaa
open Go Go.ChangeShapes Go.WideShapes Go.ChangeAt Go.RowKit
set_option linter.unusedVariables false

theorem add_none (b o i : Nat) : (⟨b, o, none⟩ : Addr).add i = ⟨b, o + i, none⟩ := by unfold Addr.add; split <;> simp_all
theorem rangeE_gd (n : Nat) (f : Nat → Ent) (i : Nat) (h : i < n) : gd ((List.range n).map f) i = f i := by
  unfold gd
  rw [List.getD_eq_getElem?_getD, List.getElem?_map, List.getElem?_range h]; rfl
section
variable {H : Type} {enc : TypeId × Value → H} {W : World}
set_option maxRecDepth 100000 in
theorem open_ent {base : Nat} {v : Value} {d : DataW H} {p : List MemPlace} (hval : Value.okWide Try.prog W .any base 36 v) (h : DataW.Trod enc Try.prog W 0 (fun _ => true) true 36 v d p) : ∃ x s : Int, v = .agg #[.int .u64 x, .int .u8 s] := by
  obtain ⟨cs, rfl, hsz⟩ := okWide_struct Try.underlying36 hval
  rw [show Try.prog.cellsOf 36 = 2 from by kernel_rfl] at hsz
  obtain ⟨l⟩ := cs
  match l, hsz with
  | [c0, c1], _ =>
  obtain ⟨fuel, hf⟩ := h
  obtain ⟨xs, n, rfl, _, _, hxl, hg⟩ := DataW.trod_struct Try.underlying36 hf
  have e3 : Try.prog.cellsOf 33 = 1 := by kernel_rfl
  have e27 : Try.prog.cellsOf 34 = 1 := by kernel_rfl
  match xs, hxl with
  | [y0, y1], _ =>
  have g0 := hg 0 _ rfl
  have g1 := hg 1 _ rfl
  simp [Value.cells, e3, e27] at g0 g1
  obtain ⟨r, f0, _, w0⟩ := DataW.trod_int Try.underlying33 g0
  obtain ⟨c, f1, _, w1⟩ := DataW.trod_int Try.underlying34 g1
  simp only [List.cons.injEq, and_true] at f0 f1
  exact ⟨r, c, by rw [f0, f1]⟩
/-- a table that came in, and what it reads as -/
def TabW (W : World) (v : Value) (x : DataW H) : Prop := ∃ a n c L, v = .slice a n c ∧ Tb W (.slice a n c) L ∧ (n = 0 ∨ ∃ es sp, x = .slice es sp ∧ es.length = n)
theorem open_tab {fuel : Nat} {cs : List Value} {x : DataW H × List MemPlace} (h : DataW.trod enc Try.prog W 0 (fun _ => true) true fuel 22 cs = some x) : ∃ v, cs = [v] ∧ TabW W v x.1 := by
  rcases Deep.open_slice_pairs Try.underlying22 Try.underlying36 (by kernel_rfl) rfl rfl (by kernel_rfl) (by kernel_rfl) h with ⟨hcs, _⟩ | ⟨a, len, cap, m, n, V0, V1, D0, D1, P0, P1, hcs, _, hl, _, hm, hxx, hx⟩
  · exact ⟨_, hcs, none, 0, 0, [], rfl, tb_nil W, .inl rfl⟩
  · have hm' : m = cap := by simpa using hm
    have each : ∀ i, i < len → ∃ q : Ent, V0 i = .int .u64 q.1 ∧ V1 i = .int .u8 q.2 := fun i hi => by
      obtain ⟨_, _, h0, h1⟩ := hx i (by omega)
      obtain ⟨y, e0, _, hwf⟩ := DataW.trod_int Try.underlying33 h0
      obtain ⟨z, e1, _, hwf2⟩ := DataW.trod_int Try.underlying34 h1
      simp only [List.cons.injEq, and_true] at e0 e1
      exact ⟨(y, z), e0, e1⟩
    obtain ⟨q, hq⟩ := Deep.choose_lt each
    have hL : ((List.range len).map q).length = len := by simp
    refine ⟨_, hcs, some a, len, cap, (List.range len).map q, rfl, ⟨some a, cap, by rw [hL], by rw [hL]; exact hl, fun h => (by cases h), fun hne => ?_⟩, .inr ⟨_, _, by rw [hxx], by simp⟩⟩
    have h0 : 0 < len := by
      rcases Nat.eq_zero_or_pos len with h | h
      · subst h; exact absurd rfl hne
      · exact h
    obtain ⟨b, o, spot⟩ := a
    obtain ⟨hc, _⟩ := hx 0 (by omega)
    have hspot : spot = none := by simpa [Addr.add] using World.cell?_spot hc
    subst hspot
    rw [add_none] at hc
    refine ⟨b, o, rfl, World.block_lt_of_cell? _ _ hc, fun j hj => ?_⟩
    rw [ecl_length, hL] at hj
    have hi : j / 2 < len := by omega
    obtain ⟨h1, h2, _⟩ := hx (j / 2) (by omega)
    rw [add_none] at h1 h2
    obtain ⟨e0, e1⟩ := hq (j / 2) hi
    obtain ⟨g0, g1⟩ := ecl_get ((List.range len).map q) (j / 2) (by rw [hL]; exact hi)
    rw [rangeE_gd len q _ hi] at g0 g1
    rcases (show j % 2 = 0 ∨ j % 2 = 1 from by omega) with hp | hp
    · rw [show j / 2 * 2 = j from by omega] at h1 g0
      rw [h1, g0, e0]
    · rw [show j / 2 * 2 + 1 = j from by omega] at h2 g1
      rw [h2, g1, e1]
end
theorem bytesE : Try.prog.bytesOf 36 = 16 := by kernel_rfl
end Go.Proofs.Ytbdefmjjhkonjaa
