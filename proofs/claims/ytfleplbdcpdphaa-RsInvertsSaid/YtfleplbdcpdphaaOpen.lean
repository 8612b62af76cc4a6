/-
  The given arguments as lists: bytes, numbers, pieces, a case, a matrix.
-/
import Derived.Test.YtfleplbdcpdphaaSrc
import Derived.WalkKit
import Derived.ProofKit
import Derived.OpenShut
import Derived.Deep.SlicePairs
namespace Go.Proofs.Ytfleplbdcpdphaa
open Go.ChangeShapes Go.WideShapes Go.ChangeAt Go.RowKit
set_option linter.unusedVariables false

/-- a slice of bytes that came in -/
def By (W : World) (a : Option Addr) (n c : Nat) (l : List Nat) : Prop := Bs W (.slice a n c) l ∧ n ≤ c ∧ (a = none → c = 0)
/-- a slice of numbers that reads as l -/
def Is (w : World) (v : Value) (l : List Int) : Prop :=
  ∃ a c, v = .slice a l.length c ∧ (∀ n ∈ l, (Lit.int .i64 n).wf = true) ∧ (l ≠ [] → ∃ b o, a = some ⟨b, o, none⟩ ∧ ∀ i, i < l.length → w.cell? ⟨b, o + i, none⟩ = some (.int .i64 (l.getD i 0)))
/-- a slice of pieces that came in -/
def Pcn (W : World) (a : Option Addr) (n c : Nat) (ps : List (Int × Sl)) (D : Nat → List Nat) : Prop :=
  Ps W (.slice a n c) ps ∧ n ≤ c ∧ (a = none → c = 0) ∧ ∀ i, (h : i < ps.length) → (Lit.int .i64 ps[i].1).wf = true ∧ By W ps[i].2.1 ps[i].2.2.1 ps[i].2.2.2 (D i)

theorem add_none (b o i : Nat) : (⟨b, o, none⟩ : Addr).add i = ⟨b, o + i, none⟩ := by unfold Addr.add; split <;> simp_all

section
variable {H : Type} {enc : TypeId × Value → H} {W : World}

theorem open_by {fuel : Nat} {cs : List Value} {x : DataW H × List MemPlace} (h : DataW.trod enc Try.prog W 0 (fun _ => true) true fuel 27 cs = some x) : ∃ a n c l, cs = [.slice a n c] ∧ By W a n c l := by
  rcases open_ints Try.underlying27 Try.underlying5 (by kernel_rfl) h with ⟨hcs, _⟩ | ⟨a, l, c, zs, hcs, _, hl, hm, hz, _, hcell, hwz⟩
  · exact ⟨none, 0, 0, [], hcs, bs_nil W, Nat.le_refl _, fun _ => rfl⟩
  · exact ⟨some a, l, c, _, hcs, bs_of_ints hl (by simpa using hz) hcell hwz, hl, fun h => by cases h⟩
theorem open_is {fuel : Nat} {cs : List Value} {x : DataW H × List MemPlace} (h : DataW.trod enc Try.prog W 0 (fun _ => true) true fuel 37 cs = some x) : ∃ a n c l, cs = [.slice a n c] ∧ Is W (.slice a n c) l ∧ n ≤ c ∧ (a = none → c = 0) := by
  rcases open_ints Try.underlying37 Try.underlying3 (by kernel_rfl) h with ⟨hcs, _⟩ | ⟨a, len, c, zs, hcs, _, hl, hm, hz, _, hcell, hwz⟩
  · exact ⟨none, 0, 0, [], hcs, ⟨none, 0, rfl, fun n h => absurd h List.not_mem_nil, fun h => absurd rfl h⟩, Nat.le_refl _, fun _ => rfl⟩
  · have hz' : zs.length = c := by simpa using hz
    have hlen : (zs.take len).length = len := by simp; omega
    refine ⟨some a, len, c, zs.take len, hcs, ⟨some a, c, by rw [hlen], fun n hn => hwz n (List.mem_of_mem_take hn), fun hne => ?_⟩, hl, fun h => by cases h⟩
    have h0 : 0 < len := by
      rcases Nat.eq_zero_or_pos len with h | h
      · subst h; exact absurd rfl hne
      · exact h
    obtain ⟨b, o, spot⟩ := a
    have hc := hcell 0 (by omega)
    have hspot : spot = none := by simpa [Addr.add] using World.cell?_spot hc
    subst hspot
    refine ⟨b, o, rfl, fun i hi => ?_⟩
    rw [hlen] at hi
    have h1 := hcell i (by omega)
    rw [add_none] at h1
    rw [h1, List.getD_eq_getElem?_getD, List.getD_eq_getElem?_getD, List.getElem?_take_of_lt hi]

theorem open_pcn {fuel : Nat} {cs : List Value} {x : DataW H × List MemPlace} (h : DataW.trod enc Try.prog W 0 (fun _ => true) true fuel 28 cs = some x) : ∃ a n c ps D, cs = [.slice a n c] ∧ Pcn W a n c ps D := by
  rcases Deep.open_slice_pairs Try.underlying28 Try.underlying36 (by kernel_rfl) rfl rfl (by kernel_rfl) (by kernel_rfl) h with ⟨hcs, _⟩ | ⟨a, len, cap, m, n, V0, V1, D0, D1, P0, P1, hcs, _, hl, _, hm, _, hx⟩
  · exact ⟨none, 0, 0, [], fun _ => [], hcs, ⟨none, 0, rfl, fun h => absurd rfl h⟩, Nat.le_refl _, fun _ => rfl, fun i h => absurd h (Nat.not_lt_zero _)⟩
  · have hm' : m = cap := by simpa using hm
    have each : ∀ i, i < len → ∃ q : (Int × Sl) × List Nat, V0 i = .int .i64 q.1.1 ∧ V1 i = .slice q.1.2.1 q.1.2.2.1 q.1.2.2.2 ∧ (Lit.int .i64 q.1.1).wf = true ∧ By W q.1.2.1 q.1.2.2.1 q.1.2.2.2 q.2 := fun i hi => by
      obtain ⟨_, _, h0, h1⟩ := hx i (by omega)
      obtain ⟨y, e0, _, hwf⟩ := DataW.trod_int Try.underlying3 h0
      obtain ⟨a', n', c', l', e1, hb⟩ := open_by h1
      simp only [List.cons.injEq, and_true] at e0 e1
      exact ⟨((y, a', n', c'), l'), e0, e1, hwf, hb⟩
    obtain ⟨q, hq⟩ := Deep.choose_lt each
    have hlen : ((List.range len).map fun i => (q i).1).length = len := by simp
    refine ⟨some a, len, cap, (List.range len).map fun i => (q i).1, fun i => (q i).2, hcs, ⟨some a, cap, by rw [hlen], fun hne => ?_⟩, hl, fun h => (by cases h), fun i hi => ?_⟩
    · have h0 : 0 < len := by
        rcases Nat.eq_zero_or_pos len with h | h
        · subst h; exact absurd rfl hne
        · exact h
      obtain ⟨b, o, spot⟩ := a
      obtain ⟨hc, _⟩ := hx 0 (by omega)
      have hspot : spot = none := by simpa [Addr.add] using World.cell?_spot hc
      subst hspot
      refine ⟨b, o, rfl, fun i hi => ?_⟩
      rw [hlen] at hi
      obtain ⟨h1, h2, _⟩ := hx i (by omega)
      rw [add_none] at h1 h2
      obtain ⟨e0, e1, _⟩ := hq i hi
      rw [e0] at h1
      rw [e1] at h2
      simpa using ⟨h1, h2⟩
    · rw [hlen] at hi
      obtain ⟨_, _, h2, h3⟩ := hq i hi
      simpa using ⟨h2, h3⟩

/-- a case that came in -/
structure CaseV (W : World) (v : Value) (K T S I : Int) (da oa ia pa : Option Addr) (dl dc ol oc il ic pl pc : Nat) (ld lo : List Nat) (li : List Int) (Wh At : Int) (M : Nat) (ps : List (Int × Sl)) (D : Nat → List Nat) : Prop where
  eq : v = .agg #[.int .i64 K, .int .i64 T, .int .i64 S, .int .i64 I, .slice da dl dc, .slice oa ol oc, .slice ia il ic, .int .i64 Wh, .int .i64 At, .int .u8 M, .slice pa pl pc]
  wf : (Lit.int .i64 K).wf = true ∧ (Lit.int .i64 T).wf = true ∧ (Lit.int .i64 S).wf = true ∧ (Lit.int .i64 I).wf = true ∧ (Lit.int .i64 Wh).wf = true ∧ (Lit.int .i64 At).wf = true ∧ M < 256
  data : By W da dl dc ld
  other : By W oa ol oc lo
  by_ : Is W (.slice ia il ic) li ∧ il ≤ ic ∧ (ia = none → ic = 0)
  pieces : Pcn W pa pl pc ps D
def CaseW (W : World) (v : Value) : Prop := ∃ K T S I da oa ia pa dl dc ol oc il ic pl pc ld lo li Wh At M ps D, CaseV W v K T S I da oa ia pa dl dc ol oc il ic pl pc ld lo li Wh At M ps D

theorem nat_of_u8 {n : Int} (h : (Lit.int .u8 n).wf = true) : ∃ m : Nat, n = m ∧ m < 256 := by
  have e1 : IntKind.u8.min = 0 := rfl
  have e2 : IntKind.u8.max = 255 := rfl
  simp [Lit.wf] at h
  exact ⟨n.toNat, by omega, by omega⟩
set_option maxRecDepth 100000 in
theorem open_case {base : Nat} {v : Value} {d : DataW H} {p : List MemPlace} (hval : Value.okWide Try.prog W .any base 39 v) (h : DataW.Trod enc Try.prog W 0 (fun _ => true) true 39 v d p) : CaseW W v := by
  obtain ⟨cs, rfl, hsz⟩ := okWide_struct Try.underlying39 hval
  rw [show Try.prog.cellsOf 39 = 11 from by kernel_rfl] at hsz
  obtain ⟨l⟩ := cs
  match l, hsz with
  | [c0, c1, c2, c3, c4, c5, c6, c7, c8, c9, c10], _ =>
  obtain ⟨fuel, hf⟩ := h
  obtain ⟨xs, n, rfl, _, _, hxl, hg⟩ := DataW.trod_struct Try.underlying39 hf
  have e3 : Try.prog.cellsOf 3 = 1 := by kernel_rfl
  have e5 : Try.prog.cellsOf 5 = 1 := by kernel_rfl
  have e27 : Try.prog.cellsOf 27 = 1 := by kernel_rfl
  have e28 : Try.prog.cellsOf 28 = 1 := by kernel_rfl
  have e37 : Try.prog.cellsOf 37 = 1 := by kernel_rfl
  match xs, hxl with
  | [y0, y1, y2, y3, y4, y5, y6, y7, y8, y9, y10], _ =>
  have g0 := hg 0 _ rfl
  have g1 := hg 1 _ rfl
  have g2 := hg 2 _ rfl
  have g3 := hg 3 _ rfl
  have g4 := hg 4 _ rfl
  have g5 := hg 5 _ rfl
  have g6 := hg 6 _ rfl
  have g7 := hg 7 _ rfl
  have g8 := hg 8 _ rfl
  have g9 := hg 9 _ rfl
  have g10 := hg 10 _ rfl
  simp [Value.cells, e3, e5, e27, e28, e37] at g0 g1 g2 g3 g4 g5 g6 g7 g8 g9 g10
  obtain ⟨K, f0, _, w0⟩ := DataW.trod_int Try.underlying3 g0
  obtain ⟨T, f1, _, w1⟩ := DataW.trod_int Try.underlying3 g1
  obtain ⟨S, f2, _, w2⟩ := DataW.trod_int Try.underlying3 g2
  obtain ⟨I, f3, _, w3⟩ := DataW.trod_int Try.underlying3 g3
  obtain ⟨da, dl, dc, ld, f4, hd⟩ := open_by g4
  obtain ⟨oa, ol, oc, lo, f5, ho⟩ := open_by g5
  obtain ⟨ia, il, ic, li, f6, hi⟩ := open_is g6
  obtain ⟨Wh, f7, _, w7⟩ := DataW.trod_int Try.underlying3 g7
  obtain ⟨At, f8, _, w8⟩ := DataW.trod_int Try.underlying3 g8
  obtain ⟨M, f9, _, w9⟩ := DataW.trod_int Try.underlying5 g9
  obtain ⟨M, rfl, w10⟩ := nat_of_u8 w9
  obtain ⟨pa, pl, pc, ps, D, f10, hp⟩ := open_pcn g10
  simp only [List.cons.injEq, and_true] at f0 f1 f2 f3 f4 f5 f6 f7 f8 f9 f10
  refine ⟨K, T, S, I, da, oa, ia, pa, dl, dc, ol, oc, il, ic, pl, pc, ld, lo, li, Wh, At, M, ps, D, ?_, ⟨w0, w1, w2, w3, w7, w8, w10⟩, hd, ho, hi, hp⟩
  rw [f0, f1, f2, f3, f4, f5, f6, f7, f8, f9, f10]

/-- a matrix that came in -/
structure MatV (W : World) (v : Value) (r c : Int) (a : Option Addr) (n cap : Nat) (l : List Nat) : Prop where
  eq : v = .agg #[.int .i64 r, .int .i64 c, .slice a n cap]
  wf : (Lit.int .i64 r).wf = true ∧ (Lit.int .i64 c).wf = true
  cells : By W a n cap l
def MatW (W : World) (v : Value) : Prop := ∃ r c a n cap l, MatV W v r c a n cap l
set_option maxRecDepth 100000 in
theorem open_mat {base : Nat} {v : Value} {d : DataW H} {p : List MemPlace} (hval : Value.okWide Try.prog W .any base 52 v) (h : DataW.Trod enc Try.prog W 0 (fun _ => true) true 52 v d p) : MatW W v := by
  obtain ⟨cs, rfl, hsz⟩ := okWide_struct Try.underlying52 hval
  rw [show Try.prog.cellsOf 52 = 3 from by kernel_rfl] at hsz
  obtain ⟨l⟩ := cs
  match l, hsz with
  | [c0, c1, c2], _ =>
  obtain ⟨fuel, hf⟩ := h
  obtain ⟨xs, n, rfl, _, _, hxl, hg⟩ := DataW.trod_struct Try.underlying52 hf
  have e3 : Try.prog.cellsOf 3 = 1 := by kernel_rfl
  have e27 : Try.prog.cellsOf 27 = 1 := by kernel_rfl
  match xs, hxl with
  | [y0, y1, y2], _ =>
  have g0 := hg 0 _ rfl
  have g1 := hg 1 _ rfl
  have g2 := hg 2 _ rfl
  simp [Value.cells, e3, e27] at g0 g1 g2
  obtain ⟨r, f0, _, w0⟩ := DataW.trod_int Try.underlying3 g0
  obtain ⟨c, f1, _, w1⟩ := DataW.trod_int Try.underlying3 g1
  obtain ⟨a, n', cap, l', f2, hd⟩ := open_by g2
  simp only [List.cons.injEq, and_true] at f0 f1 f2
  refine ⟨r, c, a, n', cap, l', ?_, ⟨w0, w1⟩, hd⟩
  rw [f0, f1, f2]
end
end Go.Proofs.Ytfleplbdcpdphaa
