/-
  The given arguments of chapter 2 that lead to more slices: parts of a message, calls of a Writer or Reader.
-/
import Derived.Test.YtdjnjmekdjcbaaaDoorBytes
import Derived.WalkKit
import Derived.ProofKit
import Derived.OpenShut
import Derived.Deep.SlicePairs
namespace Go.Proofs.YtdjnjmekdjcbaaaDoor
open Go.ChangeShapes Go.WideShapes Go.ChangeAt Go.RowKit
set_option linter.unusedVariables false

/-- a slice of bytes that came in -/
def ByD (W : World) (a : Option Addr) (n c : Nat) (l : List Nat) : Prop := Bs W (.slice a n c) l ∧ n ≤ c ∧ (a = none → c = 0)
theorem add_noneD (b o i : Nat) : (⟨b, o, none⟩ : Addr).add i = ⟨b, o + i, none⟩ := by unfold Addr.add; split <;> simp_all

section
variable {H : Type} {enc : TypeId × Value → H} {W : World}

theorem open_byD {fuel : Nat} {cs : List Value} {x : DataW H × List MemPlace} (h : DataW.trod enc Tryd.prog W 0 (fun _ => true) true fuel 27 cs = some x) : ∃ a n c l, cs = [.slice a n c] ∧ ByD W a n c l := by
  rcases open_ints Tryd.underlying27 Tryd.underlying5 (by kernel_rfl) h with ⟨hcs, _⟩ | ⟨a, l, c, zs, hcs, _, hl, hm, hz, _, hcell, hwz⟩
  · exact ⟨none, 0, 0, [], hcs, bs_nil W, Nat.le_refl _, fun _ => rfl⟩
  · exact ⟨some a, l, c, _, hcs, bs_of_ints hl (by simpa using hz) hcell hwz, hl, fun h => by cases h⟩

/-- a call of a Writer or Reader: its kind, its number, its length, its bytes -/
abbrev OpV : Type := Int × Nat × Int × Option Addr × Nat × Nat × List Nat
/-- a slice of calls that came in -/
def Ops (W : World) (v : Value) (os : List OpV) : Prop :=
  ∃ a c, v = .slice a os.length c ∧ (os ≠ [] → ∃ b o, a = some ⟨b, o, none⟩ ∧ ∀ i, (h : i < os.length) →
    W.cell? ⟨b, o + i * 4, none⟩ = some (.int .i64 os[i].1) ∧ W.cell? ⟨b, o + i * 4 + 1, none⟩ = some (.int .u64 (os[i].2.1 : Int)) ∧ W.cell? ⟨b, o + i * 4 + 2, none⟩ = some (.int .i64 os[i].2.2.1) ∧
    W.cell? ⟨b, o + i * 4 + 3, none⟩ = some (.slice os[i].2.2.2.1 os[i].2.2.2.2.1 os[i].2.2.2.2.2.1) ∧ ByD W os[i].2.2.2.1 os[i].2.2.2.2.1 os[i].2.2.2.2.2.1 os[i].2.2.2.2.2.2 ∧ os[i].2.1 < 18446744073709551616 ∧ (Lit.int .i64 os[i].1).wf = true ∧ (Lit.int .i64 os[i].2.2.1).wf = true)
theorem nat_of_u64D {n : Int} (h : (Lit.int .u64 n).wf = true) : ∃ m : Nat, n = m ∧ m < 18446744073709551616 := by
  have e1 : IntKind.u64.min = 0 := rfl
  have e2 : IntKind.u64.max = 18446744073709551615 := rfl
  simp [Lit.wf] at h
  exact ⟨n.toNat, by omega, by omega⟩
theorem open_ops {fuel : Nat} {cs : List Value} {x : DataW H × List MemPlace} (h : DataW.trod enc Tryd.prog W 0 (fun _ => true) true fuel 22 cs = some x) : ∃ v os, cs = [v] ∧ Ops W v os := by
  have hc4 : Tryd.prog.cellsOf 33 = 4 := by kernel_rfl
  rcases Deep.open_slice Tryd.underlying22 h with ⟨hcs, _⟩ | ⟨a, len, cap, m, n, D, Pl, hcs, _, hl, _, hm, _, hx⟩
  · exact ⟨_, [], hcs, none, 0, rfl, fun h => absurd rfl h⟩
  · have hm' : m = cap := by simpa using hm
    rw [hc4] at hx
    have each : ∀ i, i < len → ∃ q : OpV, (W.cell? (a.add (i * 4)) = some (.int .i64 q.1) ∧ W.cell? ((a.add (i * 4)).add 1) = some (.int .u64 (q.2.1 : Int)) ∧ W.cell? ((a.add (i * 4)).add 2) = some (.int .i64 q.2.2.1) ∧
        W.cell? ((a.add (i * 4)).add 3) = some (.slice q.2.2.2.1 q.2.2.2.2.1 q.2.2.2.2.2.1)) ∧ ByD W q.2.2.2.1 q.2.2.2.2.1 q.2.2.2.2.2.1 q.2.2.2.2.2.2 ∧ q.2.1 < 18446744073709551616 ∧ (Lit.int .i64 q.1).wf = true ∧ (Lit.int .i64 q.2.2.1).wf = true := fun i hi => by
      obtain ⟨cs', h1, h2⟩ := hx i (by omega)
      obtain ⟨_, hlen, hcell⟩ := World.cells?_some h1
      match cs', hlen with
      | [c0, c1, c2, c3], _ =>
      have k0 := hcell 0 (by omega)
      have k1 := hcell 1 (by omega)
      have k2 := hcell 2 (by omega)
      have k3 := hcell 3 (by omega)
      obtain ⟨xs, n', _, _, _, hxl, hg⟩ := DataW.trod_struct Tryd.underlying33 h2
      have e3 : Tryd.prog.cellsOf 3 = 1 := by kernel_rfl
      have e4 : Tryd.prog.cellsOf 31 = 1 := by kernel_rfl
      have e5 : Tryd.prog.cellsOf 27 = 1 := by kernel_rfl
      match xs, hxl with
      | [y0, y1, y2, y3], _ =>
      have g0 := hg 0 _ rfl
      have g1 := hg 1 _ rfl
      have g2 := hg 2 _ rfl
      have g3 := hg 3 _ rfl
      simp [e3, e4, e5] at g0 g1 g2 g3
      obtain ⟨K, f0, _, w0⟩ := DataW.trod_int Tryd.underlying3 g0
      obtain ⟨U, f1, _, w1⟩ := DataW.trod_int Tryd.underlying31 g1
      obtain ⟨U, rfl, w1'⟩ := nat_of_u64D w1
      obtain ⟨N, f2, _, w2⟩ := DataW.trod_int Tryd.underlying3 g2
      obtain ⟨ba, bn, bc, bl, f3, hb⟩ := open_byD g3
      simp only [List.cons.injEq, and_true] at f0 f1 f2 f3
      subst f0 f1 f2 f3
      exact ⟨(K, U, N, ba, bn, bc, bl), ⟨by rw [Deep.add_add, Nat.add_zero] at k0; simpa using k0, by simpa using k1, by simpa using k2, by simpa using k3⟩, hb, w1', w0, w2⟩
    obtain ⟨q, hq⟩ := Deep.choose_lt each
    have hlen : ((List.range len).map q).length = len := by simp
    refine ⟨_, (List.range len).map q, hcs, some a, cap, by rw [hlen], fun hne => ?_⟩
    have h0 : 0 < len := by
      rcases Nat.eq_zero_or_pos len with h | h
      · subst h; exact absurd rfl hne
      · exact h
    obtain ⟨b, o, spot⟩ := a
    obtain ⟨⟨hc, _⟩, _⟩ := hq 0 h0
    have hspot : spot = none := by simpa [Addr.add] using World.cell?_spot hc
    subst hspot
    refine ⟨b, o, rfl, fun i hi => ?_⟩
    rw [hlen] at hi
    obtain ⟨⟨h1, h2, h3, h4⟩, h5, h6, h7, h8⟩ := hq i hi
    rw [Deep.add_add, add_noneD] at h2 h3 h4
    rw [add_noneD] at h1
    rw [← Nat.add_assoc] at h2 h3 h4
    simpa using ⟨h1, h2, h3, h4, h5, h6, h7, h8⟩
end
end Go.Proofs.YtdjnjmekdjcbaaaDoor
