/-
  The given arguments as lists: bytes, numbers, pieces. · The given argument of chapter 2 that is a case. · A case in memory; large. · An append to an empty new row, as a region's step. · A law's call of Make: the steps of its region, and what they leave. · A law's call of Make: what its region leaves, whatever Make answers. · Same: two manifests of one content.
-/
import Derived.Test.YtafkjfpmjhfofaaDoorSrc
import Derived.WalkKit
import Derived.ProofKit
import Derived.OpenShut
import Derived.Deep.SlicePairs
import Derived.Test.YtafkjfpmjhfofaaDoorOwMn
import Derived.Test.YtafkjfpmjhfofaaDoorApp
import Derived.Deep.RegionHeld3
import Derived.Test.YtafkjfpmjhfofaaDoorMake
import Derived.Test.YtafkjfpmjhfofaaDoorVals
import Derived.Laws.AppendOwnNone
import Derived.Deep.MidRow
import Derived.Deep.QuietTactic
import Derived.BigQuiet
namespace Go.Proofs.YtafkjfpmjhfofaaDoor
open Go.ChangeShapes Go.WideShapes Go.ChangeAt Go.RowKit
set_option linter.unusedVariables false

/-- a slice of bytes that came in -/
def By (W : World) (a : Option Addr) (n c : Nat) (l : List Nat) : Prop := Bs W (.slice a n c) l ∧ n ≤ c ∧ (a = none → c = 0)
/-- a slice of numbers that reads as l -/
def Is (w : World) (v : Value) (l : List Int) : Prop :=
  ∃ a c, v = .slice a l.length c ∧ (∀ n ∈ l, (Lit.int .i64 n).wf = true) ∧ (l ≠ [] → ∃ b o, a = some ⟨b, o, none⟩ ∧ ∀ i, i < l.length → w.cell? ⟨b, o + i, none⟩ = some (.int .i64 (l.getD i 0)))
/-- a slice of pieces that came in -/
def Pcn (W : World) (a : Option Addr) (n c : Nat) (ps : List (Int × Sl)) (D : Nat → List Nat) : Prop :=
  Ps W (.slice a n c) ps ∧ n ≤ c ∧ (a = none → c = 0) ∧ ∀ i, (h : i < ps.length) → (Lit.int .i64 ps[i].1).wf = true ∧ By W ps[i].2.1 ps[i].2.2.1 ps[i].2.2.2 (D i)

theorem add_none (b o i : Nat) : (⟨b, o, none⟩ : Addr).add i = ⟨b, o + i, none⟩ := by unfold Addr.add; split <;> simp_all

section
variable {H : Type} {enc : TypeId × Value → H} {W : World}

theorem open_by {fuel : Nat} {cs : List Value} {x : DataW H × List MemPlace} (h : DataW.trod enc Tryd.prog W 0 (fun _ => true) true fuel 22 cs = some x) : ∃ a n c l, cs = [.slice a n c] ∧ By W a n c l := by
  rcases open_ints Tryd.underlying22 Tryd.underlying5 (by kernel_rfl) h with ⟨hcs, _⟩ | ⟨a, l, c, zs, hcs, _, hl, hm, hz, _, hcell, hwz⟩
  · exact ⟨none, 0, 0, [], hcs, bs_nil W, Nat.le_refl _, fun _ => rfl⟩
  · exact ⟨some a, l, c, _, hcs, bs_of_ints hl (by simpa using hz) hcell hwz, hl, fun h => by cases h⟩
theorem open_is {fuel : Nat} {cs : List Value} {x : DataW H × List MemPlace} (h : DataW.trod enc Tryd.prog W 0 (fun _ => true) true fuel 29 cs = some x) : ∃ a n c l, cs = [.slice a n c] ∧ Is W (.slice a n c) l ∧ n ≤ c ∧ (a = none → c = 0) := by
  rcases open_ints Tryd.underlying29 Tryd.underlying3 (by kernel_rfl) h with ⟨hcs, _⟩ | ⟨a, len, c, zs, hcs, _, hl, hm, hz, _, hcell, hwz⟩
  · exact ⟨none, 0, 0, [], hcs, ⟨none, 0, rfl, fun n h => absurd h List.not_mem_nil, fun h => absurd rfl h⟩, Nat.le_refl _, fun _ => rfl⟩
  · have hz' : zs.length = c := by simpa using hz
    have hlen : (zs.take len).length = len := by simp; omega
    refine ⟨some a, len, c, zs.take len, hcs, ⟨some a, c, by rw [hlen], fun n hn => hwz n (List.mem_of_mem_take hn), fun hne => ?_⟩, hl, fun h => by cases h⟩
    have h0 : 0 < len := by
      rcases Nat.eq_zero_or_pos len with h | h
      · subst h; exact absurd rfl hne
      · exact h
    obtain ⟨b, o, spot⟩ := a
    have hc := hcell 0 (by omega)
    have hspot : spot = none := by simpa [Addr.add] using World.cell?_spot hc
    subst hspot
    refine ⟨b, o, rfl, fun i hi => ?_⟩
    rw [hlen] at hi
    have h1 := hcell i (by omega)
    rw [add_none] at h1
    rw [h1, List.getD_eq_getElem?_getD, List.getD_eq_getElem?_getD, List.getElem?_take_of_lt hi]

theorem open_pcn {fuel : Nat} {cs : List Value} {x : DataW H × List MemPlace} (h : DataW.trod enc Tryd.prog W 0 (fun _ => true) true fuel 28 cs = some x) : ∃ a n c ps D, cs = [.slice a n c] ∧ Pcn W a n c ps D := by
  rcases Deep.open_slice_pairs Tryd.underlying28 Tryd.underlying43 (by kernel_rfl) rfl rfl (by kernel_rfl) (by kernel_rfl) h with ⟨hcs, _⟩ | ⟨a, len, cap, m, n, V0, V1, D0, D1, P0, P1, hcs, _, hl, _, hm, _, hx⟩
  · exact ⟨none, 0, 0, [], fun _ => [], hcs, ⟨none, 0, rfl, fun h => absurd rfl h⟩, Nat.le_refl _, fun _ => rfl, fun i h => absurd h (Nat.not_lt_zero _)⟩
  · have hm' : m = cap := by simpa using hm
    have each : ∀ i, i < len → ∃ q : (Int × Sl) × List Nat, V0 i = .int .i64 q.1.1 ∧ V1 i = .slice q.1.2.1 q.1.2.2.1 q.1.2.2.2 ∧ (Lit.int .i64 q.1.1).wf = true ∧ By W q.1.2.1 q.1.2.2.1 q.1.2.2.2 q.2 := fun i hi => by
      obtain ⟨_, _, h0, h1⟩ := hx i (by omega)
      obtain ⟨y, e0, _, hwf⟩ := DataW.trod_int Tryd.underlying3 h0
      obtain ⟨a', n', c', l', e1, hb⟩ := open_by h1
      simp only [List.cons.injEq, and_true] at e0 e1
      exact ⟨((y, a', n', c'), l'), e0, e1, hwf, hb⟩
    obtain ⟨q, hq⟩ := Deep.choose_lt each
    have hlen : ((List.range len).map fun i => (q i).1).length = len := by simp
    refine ⟨some a, len, cap, (List.range len).map fun i => (q i).1, fun i => (q i).2, hcs, ⟨some a, cap, by rw [hlen], fun hne => ?_⟩, hl, fun h => (by cases h), fun i hi => ?_⟩
    · have h0 : 0 < len := by
        rcases Nat.eq_zero_or_pos len with h | h
        · subst h; exact absurd rfl hne
        · exact h
      obtain ⟨b, o, spot⟩ := a
      obtain ⟨hc, _⟩ := hx 0 (by omega)
      have hspot : spot = none := by simpa [Addr.add] using World.cell?_spot hc
      subst hspot
      refine ⟨b, o, rfl, fun i hi => ?_⟩
      rw [hlen] at hi
      obtain ⟨h1, h2, _⟩ := hx i (by omega)
      rw [add_none] at h1 h2
      obtain ⟨e0, e1, _⟩ := hq i hi
      rw [e0] at h1
      rw [e1] at h2
      simpa using ⟨h1, h2⟩
    · rw [hlen] at hi
      obtain ⟨_, _, h2, h3⟩ := hq i hi
      simpa using ⟨h2, h3⟩
end
end Go.Proofs.YtafkjfpmjhfofaaDoor

namespace Go.Proofs.YtafkjfpmjhfofaaDoor
open Go.ChangeShapes Go.WideShapes Go.ChangeAt Go.RowKit
set_option linter.unusedVariables false

section
variable {H : Type} {enc : TypeId × Value → H} {W : World}

set_option maxRecDepth 100000 in
theorem open_manC {fuel : Nat} {l : List Value} {x : DataW H × List MemPlace} (hf : DataW.trod enc Tryd.prog W 0 (fun _ => true) true fuel 27 l = some x) (hl37 : l.length = 37) :
    ∃ (k n t s : Int) (od : List Nat) (a : Option Addr) (m c : Nat) (D : List (List Nat)), l = mcells k n t s od (.slice a m c) ∧ od.length = 32 ∧ (∀ y ∈ od, y < 256) ∧ Dgs W a m c D := by
  obtain ⟨xs, n, rfl, _, _, hxl, hg⟩ := DataW.trod_struct Tryd.underlying27 hf
  match xs, hxl with
  | [y0, y1, y2, y3, y4, y5], _ =>
  have g0 := hg 0 _ rfl
  have g1 := hg 1 _ rfl
  have g2 := hg 2 _ rfl
  have g3 := hg 3 _ rfl
  have g4 := hg 4 _ rfl
  have g5 := hg 5 _ rfl
  obtain ⟨k, f0, _, w0⟩ := DataW.trod_int Tryd.underlying3 g0
  obtain ⟨n', f1, _, w1⟩ := DataW.trod_int Tryd.underlying3 g1
  obtain ⟨t, f2, _, w2⟩ := DataW.trod_int Tryd.underlying3 g2
  obtain ⟨s, f3, _, w3⟩ := DataW.trod_int Tryd.underlying3 g3
  have e30 : Tryd.prog.cellsOf 24 = 32 := by kernel_rfl
  obtain ⟨od, f4, ho1, ho2⟩ := open_arr32D g4 (by simp; omega)
  obtain ⟨a, m, c, D, f5, hD⟩ := open_dgs g5
  refine ⟨k, n', t, s, od, a, m, c, D, ?_, ho1, ho2, hD⟩
  have r0 : l[0]? = some (.int .i64 k) := chunkL f0
  have r1 : l[1]? = some (.int .i64 n') := chunkL f1
  have r2 : l[2]? = some (.int .i64 t) := chunkL f2
  have r3 : l[3]? = some (.int .i64 s) := chunkL f3
  have r5 : l[36]? = some (.slice a m c) := chunkL f5
  have r4 : ∀ i, i < 32 → l[4 + i]? = (u8s od)[i]? := fun i hi => by
    have h : (List.take 32 (List.drop 4 l))[i]? = (u8s od)[i]? := congrArg (·[i]?) f4
    rw [← h, List.getElem?_take_of_lt hi, List.getElem?_drop]
  have hml := mcells_length k n' t s od (.slice a m c) ho1
  apply List.ext_getElem?
  intro i
  by_cases hi : i < 37
  · rcases (show i = 0 ∨ i = 1 ∨ i = 2 ∨ i = 3 ∨ (∃ j, i = 4 + j ∧ j < 32) ∨ i = 36 from by
      rcases (show i < 4 ∨ i = 36 ∨ (4 ≤ i ∧ i < 36) from by omega) with h | h | h
      · omega
      · exact .inr (.inr (.inr (.inr (.inr h))))
      · exact .inr (.inr (.inr (.inr (.inl ⟨i - 4, by omega, by omega⟩))))) with rfl | rfl | rfl | rfl | ⟨j, rfl, hj⟩ | rfl
    · rw [r0]; rfl
    · rw [r1]; rfl
    · rw [r2]; rfl
    · rw [r3]; rfl
    · rw [r4 j hj]
      unfold mcells
      rw [List.append_assoc, List.getElem?_append_right (by simp), List.getElem?_append_left (by simp [u8s, ho1]; omega)]
      simp
    · rw [r5]
      unfold mcells
      rw [List.getElem?_append_right (by simp [u8s, ho1])]
      simp [u8s, ho1]
  · rw [List.getElem?_eq_none (by omega), List.getElem?_eq_none (by omega)]

/-- a case that came in -/
structure CaseD (W : World) (v : Value) (K N T I : Int) (da : Option Addr) (dl dc : Nat) (ld : List Nat) (mk mn mt ms : Int) (mo : List Nat) (ma : Option Addr) (mm mc : Nat) (mD : List (List Nat)) (pa : Option Addr) (pl pc : Nat) (ps : List (Int × Sl)) (D : Nat → List Nat) (ia : Option Addr) (il ic : Nat) (li : List Int) : Prop where
  eq : v = .agg (([.int .i64 K, .int .i64 N, .int .i64 T, .int .i64 I, .slice da dl dc] : List Value) ++ mcells mk mn mt ms mo (.slice ma mm mc) ++ ([.slice pa pl pc, .slice ia il ic] : List Value)).toArray
  wf : (Lit.int .i64 K).wf = true ∧ (Lit.int .i64 N).wf = true ∧ (Lit.int .i64 T).wf = true ∧ (Lit.int .i64 I).wf = true
  data : By W da dl dc ld
  mo32 : mo.length = 32
  molt : ∀ y ∈ mo, y < 256
  man : Dgs W ma mm mc mD
  pieces : Pcn W pa pl pc ps D
  by_ : Is W (.slice ia il ic) li ∧ il ≤ ic ∧ (ia = none → ic = 0)
def CaseWD (W : World) (v : Value) : Prop := ∃ K N T I da dl dc ld mk mn mt ms mo ma mm mc mD pa pl pc ps D ia il ic li, CaseD W v K N T I da dl dc ld mk mn mt ms mo ma mm mc mD pa pl pc ps D ia il ic li
set_option maxRecDepth 100000 in
theorem open_caseD {base : Nat} {v : Value} {d : DataW H} {p : List MemPlace} (hval : Value.okWide Tryd.prog W .any base 31 v) (h : DataW.Trod enc Tryd.prog W 0 (fun _ => true) true 31 v d p) : CaseWD W v := by
  obtain ⟨cs, rfl, hsz⟩ := okWide_struct Tryd.underlying31 hval
  rw [show Tryd.prog.cellsOf 31 = 44 from by kernel_rfl] at hsz
  obtain ⟨l⟩ := cs
  match l, hsz with
  | c0 :: c1 :: c2 :: c3 :: c4 :: c5 :: c6 :: c7 :: c8 :: c9 :: c10 :: c11 :: c12 :: c13 :: c14 :: c15 :: c16 :: c17 :: c18 :: c19 :: c20 :: c21 :: c22 :: c23 :: c24 :: c25 :: c26 :: c27 :: c28 :: c29 :: c30 :: c31 :: c32 :: c33 :: c34 :: c35 :: c36 :: c37 :: c38 :: c39 :: c40 :: c41 :: c42 :: c43 :: [], _ =>
  obtain ⟨fuel, hf⟩ := h
  obtain ⟨xs, n, rfl, _, _, hxl, hg⟩ := DataW.trod_struct Tryd.underlying31 hf
  have e3 : Tryd.prog.cellsOf 3 = 1 := by kernel_rfl
  have e5 : Tryd.prog.cellsOf 22 = 1 := by kernel_rfl
  have e37 : Tryd.prog.cellsOf 27 = 37 := by kernel_rfl
  have e28 : Tryd.prog.cellsOf 28 = 1 := by kernel_rfl
  have e38 : Tryd.prog.cellsOf 29 = 1 := by kernel_rfl
  match xs, hxl with
  | [y0, y1, y2, y3, y4, y5, y6, y7], _ =>
  have g0 := hg 0 _ rfl
  have g1 := hg 1 _ rfl
  have g2 := hg 2 _ rfl
  have g3 := hg 3 _ rfl
  have g4 := hg 4 _ rfl
  have g5 := hg 5 _ rfl
  have g6 := hg 6 _ rfl
  have g7 := hg 7 _ rfl
  simp [Value.cells, e3, e5, e28, e37, e38] at g0 g1 g2 g3 g4 g5 g6 g7
  obtain ⟨K, f0, _, w0⟩ := DataW.trod_int Tryd.underlying3 g0
  obtain ⟨N, f1, _, w1⟩ := DataW.trod_int Tryd.underlying3 g1
  obtain ⟨T, f2, _, w2⟩ := DataW.trod_int Tryd.underlying3 g2
  obtain ⟨I, f3, _, w3⟩ := DataW.trod_int Tryd.underlying3 g3
  obtain ⟨da, dl, dc, ld, f4, hd⟩ := open_by g4
  obtain ⟨mk, mn, mt, ms, mo, ma, mm, mc, mD, f5, hmo, hml, hmD⟩ := open_manC g5 rfl
  obtain ⟨pa, pl, pc, ps, D, f6, hp⟩ := open_pcn g6
  obtain ⟨ia, il, ic, li, f7, hi⟩ := open_is g7
  simp only [List.cons.injEq, and_true] at f0 f1 f2 f3 f4 f6 f7
  refine ⟨K, N, T, I, da, dl, dc, ld, mk, mn, mt, ms, mo, ma, mm, mc, mD, pa, pl, pc, ps, D, ia, il, ic, li, ?_, ⟨w0, w1, w2, w3⟩, hd, hmo, hml, hmD, hp, hi⟩
  show Value.agg (([c0, c1, c2, c3, c4] : List Value) ++ (c5 :: c6 :: c7 :: c8 :: c9 :: c10 :: c11 :: c12 :: c13 :: c14 :: c15 :: c16 :: c17 :: c18 :: c19 :: c20 :: c21 :: c22 :: c23 :: c24 :: c25 :: c26 :: c27 :: c28 :: c29 :: c30 :: c31 :: c32 :: c33 :: c34 :: c35 :: c36 :: c37 :: c38 :: c39 :: c40 :: c41 :: []) ++ [c42, c43]).toArray = _
  rw [f5, f0, f1, f2, f3, f4, f6, f7]
end
end Go.Proofs.YtafkjfpmjhfofaaDoor

namespace Go.Proofs.YtafkjfpmjhfofaaDoor
open Go Go.RowKit
set_option linter.unusedVariables false

def plenL (ps : List (Int × Sl)) (j : Nat) : Nat := (ps.getD j (0, none, 0, 0)).2.2.1
theorem plenL_at (ps : List (Int × Sl)) (i : Nat) (h : i < ps.length) : (ps[i]'h).2.2.1 = plenL ps i := by
  unfold plenL
  rw [List.getD_eq_getElem?_getD, List.getElem?_eq_getElem h]
  rfl
/-- the cells of a case -/
def cc (K N T I : Int) (dv : Value) (mk mn mt ms : Int) (mo : List Nat) (mv pv iv : Value) : List Value := ([.int .i64 K, .int .i64 N, .int .i64 T, .int .i64 I, dv] : List Value) ++ mcells mk mn mt ms mo mv ++ ([pv, iv] : List Value)
theorem cc_length (K N T I : Int) (dv : Value) (mk mn mt ms : Int) (mo : List Nat) (mv pv iv : Value) (h : mo.length = 32) : (cc K N T I dv mk mn mt ms mo mv pv iv).length = 44 := by
  unfold cc
  rw [List.length_append, List.length_append, mcells_length _ _ _ _ _ _ h]
  rfl
def CaseAt (w : World) (b : Nat) (K N T I : Int) (dv : Value) (mk mn mt ms : Int) (mo : List Nat) (mv pv iv : Value) : Prop := w.heap[b]? = some (.cells (cc K N T I dv mk mn mt ms mo mv pv iv).toArray 31 (0, 0))
theorem CaseAt.c {w : World} {b : Nat} {K N T I : Int} {dv : Value} {mk mn mt ms : Int} {mo : List Nat} {mv pv iv : Value} (h : CaseAt w b K N T I dv mk mn mt ms mo mv pv iv) :
    w.cell? ⟨b, 0, none⟩ = some (.int .i64 K) ∧ w.cell? ⟨b, 1, none⟩ = some (.int .i64 N) ∧ w.cell? ⟨b, 2, none⟩ = some (.int .i64 T) ∧ w.cell? ⟨b, 3, none⟩ = some (.int .i64 I) ∧ w.cell? ⟨b, 4, none⟩ = some dv :=
  ⟨by rw [cell_of_heap h]; rfl, by rw [cell_of_heap h]; rfl, by rw [cell_of_heap h]; rfl, by rw [cell_of_heap h]; rfl, by rw [cell_of_heap h]; rfl⟩
theorem cc_hi (K N T I : Int) (dv : Value) (mk mn mt ms : Int) (mo : List Nat) (mv pv iv : Value) (h : mo.length = 32) : (cc K N T I dv mk mn mt ms mo mv pv iv)[41]? = some mv ∧ (cc K N T I dv mk mn mt ms mo mv pv iv)[42]? = some pv ∧ (cc K N T I dv mk mn mt ms mo mv pv iv)[43]? = some iv := by
  have hm := mcells_length mk mn mt ms mo mv h
  have h5 : (([.int .i64 K, .int .i64 N, .int .i64 T, .int .i64 I, dv] : List Value) ++ mcells mk mn mt ms mo mv).length = 42 := by rw [List.length_append, hm]; rfl
  unfold cc
  refine ⟨?_, ?_, ?_⟩
  · rw [List.getElem?_append_left (by rw [h5]; decide), List.getElem?_append_right (by simp)]
    show (mcells mk mn mt ms mo mv)[36]? = _
    unfold mcells
    rw [List.getElem?_append_right (by simp [u8s, h])]
    simp [u8s, h]
  · rw [List.getElem?_append_right (by rw [h5]; decide), h5]; rfl
  · rw [List.getElem?_append_right (by rw [h5]; decide), h5]; rfl
theorem CaseAt.hi {w : World} {b : Nat} {K N T I : Int} {dv : Value} {mk mn mt ms : Int} {mo : List Nat} {mv pv iv : Value} (h : CaseAt w b K N T I dv mk mn mt ms mo mv pv iv) (ho : mo.length = 32) :
    w.cell? ⟨b, 41, none⟩ = some mv ∧ w.cell? ⟨b, 42, none⟩ = some pv ∧ w.cell? ⟨b, 43, none⟩ = some iv := by
  obtain ⟨h1, h2, h3⟩ := cc_hi K N T I dv mk mn mt ms mo mv pv iv ho
  exact ⟨by rw [cell_of_heap h, List.getElem?_toArray]; exact h1, by rw [cell_of_heap h, List.getElem?_toArray]; exact h2, by rw [cell_of_heap h, List.getElem?_toArray]; exact h3⟩

def cz : Array Value := (cc 0 0 0 0 (.slice none 0 0) 0 0 0 0 (List.replicate 32 0) (.slice none 0 0) (.slice none 0 0) (.slice none 0 0)).toArray
/-- what large answers -/
def LrgTo (pl mm dl il : Nat) (ps : List (Int × Sl)) (w : World) (e : Ending) (w' : World) : Prop :=
  Below w.heap.size w w' ∧ ∃ r, e = .returned (.bool r) ∧ (r = false → pl ≤ 60 ∧ mm ≤ 400 ∧ dl ≤ 10000 ∧ il ≤ 60 ∧ ∀ j, j < ps.length → plenL ps j ≤ 9000)

set_option maxRecDepth 100000 in
set_option maxHeartbeats 4000000 in
theorem large_any (K N T I : Int) (da : Option Addr) (dl dc : Nat) (mk mn mt ms : Int) (mo : List Nat) (ma : Option Addr) (mm mc : Nat) (pa : Option Addr) (pl pc : Nat) (ps : List (Int × Sl)) (ia : Option Addr) (il ic : Nat) (w : World) (ho : mo.length = 32) (hp : Ps w (.slice pa pl pc) ps) :
    Calls Tryd.prog 11 #[.agg (cc K N T I (.slice da dl dc) mk mn mt ms mo (.slice ma mm mc) (.slice pa pl pc) (.slice ia il ic)).toArray] w (LrgTo pl mm dl il ps w) := by
  obtain ⟨w1, hw1⟩ : ∃ y, y = w.alloc (.cells (cc K N T I (.slice da dl dc) mk mn mt ms mo (.slice ma mm mc) (.slice pa pl pc) (.slice ia il ic)).toArray 31) := ⟨_, rfl⟩
  have HB1 := hid (show Below w.heap.size w w1 from by rw [hw1]; exact (Below.refl _ _).alloc (Nat.le_refl _) _)
  have hC : CaseAt w1 w.heap.size K N T I (.slice da dl dc) mk mn mt ms mo (.slice ma mm mc) (.slice pa pl pc) (.slice ia il ic) := by rw [hw1]; exact heap_new _ _
  obtain ⟨-, -, -, -, c4⟩ := hC.c
  obtain ⟨c41, c42, c43⟩ := hC.hi ho
  have HP := hid (hp.below HB1.out)
  have HN := hid (show pl = ps.length from by obtain ⟨_, _, h1, _⟩ := hp; simp only [Value.slice.injEq] at h1; exact h1.2.1)
  clear hC hp ho
  by_cases g1 : 60 < pl
  · as_aux_lemma =>
    have i1 : 60 < (pl : Int) := by omega
    go_enter Tryd.func11, Tryd.ntmps11
    go_upto_region 1 with fail
    change Code.wp _ _ _ _ (w.alloc (.cells (cc K N T I (.slice da dl dc) mk mn mt ms mo (.slice ma mm mc) (.slice pa pl pc) (.slice ia il ic)).toArray 31))
    rw [← hw1]
    clear hw1
    go_wp2
    go_ret
    exact ⟨HB1.out, true, rfl, fun h => by cases h⟩
  have i1 : ¬ 60 < (pl : Int) := by omega
  by_cases g2 : 400 < mm
  · as_aux_lemma =>
    have i2 : 400 < (mm : Int) := by omega
    go_enter Tryd.func11, Tryd.ntmps11
    go_upto_region 1 with fail
    change Code.wp _ _ _ _ (w.alloc (.cells (cc K N T I (.slice da dl dc) mk mn mt ms mo (.slice ma mm mc) (.slice pa pl pc) (.slice ia il ic)).toArray 31))
    rw [← hw1]
    clear hw1
    go_wp2
    go_ret
    exact ⟨HB1.out, true, rfl, fun h => by cases h⟩
  have i2 : ¬ 400 < (mm : Int) := by omega
  by_cases g3 : 10000 < dl
  · as_aux_lemma =>
    have i3 : 10000 < (dl : Int) := by omega
    go_enter Tryd.func11, Tryd.ntmps11
    go_upto_region 1 with fail
    change Code.wp _ _ _ _ (w.alloc (.cells (cc K N T I (.slice da dl dc) mk mn mt ms mo (.slice ma mm mc) (.slice pa pl pc) (.slice ia il ic)).toArray 31))
    rw [← hw1]
    clear hw1
    go_wp2
    go_ret
    exact ⟨HB1.out, true, rfl, fun h => by cases h⟩
  have i3 : ¬ 10000 < (dl : Int) := by omega
  by_cases g4 : 60 < il
  · as_aux_lemma =>
    have i4 : 60 < (il : Int) := by omega
    go_enter Tryd.func11, Tryd.ntmps11
    go_upto_region 1 with fail
    change Code.wp _ _ _ _ (w.alloc (.cells (cc K N T I (.slice da dl dc) mk mn mt ms mo (.slice ma mm mc) (.slice pa pl pc) (.slice ia il ic)).toArray 31))
    rw [← hw1]
    clear hw1
    go_wp2
    go_ret
    exact ⟨HB1.out, true, rfl, fun h => by cases h⟩
  have i4 : ¬ 60 < (il : Int) := by omega
  go_enter Tryd.func11, Tryd.ntmps11
  go_upto_region 1 with fail
  change Code.wp _ _ _ _ (w.alloc (.cells (cc K N T I (.slice da dl dc) mk mn mt ms mo (.slice ma mm mc) (.slice pa pl pc) (.slice ia il ic)).toArray 31))
  rw [← hw1]
  clear hw1
  go_wp2
  go_loop [3] (fun iv => ∃ i : Nat, i ≤ pl ∧ iv = .int .i64 i ∧ Hid (∀ j, j < i → plenL ps j ≤ 9000)) (fun iv => pl - (intOf iv).toNat)
  case atStart => exact ⟨0, by omega, rfl, hid fun j h => absurd h (Nat.not_lt_zero _)⟩
  case round =>
    obtain ⟨i, hi, rfl, HLE⟩ := hrel
    by_cases hlt : i < pl
    · have j1 : (i : Int) < (pl : Int) := by omega
      have hi2 : i < ps.length := by rw [← HN.out]; exact hlt
      obtain ⟨b, o, rfl⟩ : ∃ b o, pa = some ⟨b, o, none⟩ := by
        obtain ⟨a', c', h1, h3⟩ := HP.out
        obtain ⟨b, o, ha, _⟩ := h3 (by intro e; rw [e] at hi2; exact absurd hi2 (Nat.not_lt_zero _))
        simp at h1
        exact ⟨b, o, h1.1.trans ha⟩
      obtain ⟨q0, q1⟩ := HP.out.cells i hi2
      rw [plenL_at] at q1
      obtain ⟨dn, hdn⟩ : ∃ m, m = plenL ps i := ⟨_, rfl⟩
      rw [← hdn] at q1
      generalize (ps[i]'_).2.1 = xa at *
      generalize (ps[i]'_).2.2.2 = xc at *
      have HDN := hid hdn
      clear hdn q0
      by_cases g9 : 9000 < dn
      · have j9 : 9000 < (dn : Int) := by omega
        go_wp2
        go_ret
        exact ⟨HB1.out, true, rfl, fun h => by cases h⟩
      · have j9 : ¬ 9000 < (dn : Int) := by omega
        have HLE2 := hid (show ∀ j, j < i + 1 → plenL ps j ≤ 9000 from fun j hj => by
          by_cases e : j = i
          · rw [e, ← HDN.out]; omega
          · exact HLE.out j (by omega))
        go_wp2
        exact ⟨⟨i + 1, by omega, by go_num, HLE2⟩, by simp [intOf]; omega⟩
    · obtain rfl : i = pl := by omega
      go_wp2
      go_ret
      exact ⟨HB1.out, false, rfl, fun _ => ⟨by omega, by omega, by omega, by omega, fun j hj => HLE.out j (by rw [HN.out]; exact hj)⟩⟩
end Go.Proofs.YtafkjfpmjhfofaaDoor

namespace Go.Proofs.YtafkjfpmjhfofaaDoor
open Go Go.RowKit
set_option linter.unusedVariables false

/-- rows of different element types lie in different blocks -/
theorem own_types {w : World} {B1 B2 s1 s2 n1 n2 : Nat} {e1 e2 : TypeId} {v1 v2 : Value} {x1 x2 : List Value} (h1 : w.ownsRow B1 e1 s1 v1 n1 x1) (h2 : w.ownsRow B2 e2 s2 v2 n2 x2) (hne : e1 ≠ e2) : v1.ownBlock = none ∨ v1.ownBlock ≠ v2.ownBlock := by
  rcases h1.2 with ⟨rfl, _⟩ | ⟨g1, c1, u1, rfl, _, k1, _⟩
  · exact .inl rfl
  · right
    rcases h2.2 with ⟨rfl, _⟩ | ⟨g2, c2, u2, rfl, _, k2, _⟩
    · simp [Value.ownBlock]
    · simp only [Value.ownBlock, ne_eq, Option.some.injEq]
      rintro rfl
      rw [k1] at k2
      simp at k2
      exact hne k2.2
theorem u8s_oneS (l : List Nat) : ∀ v ∈ u8s l, v.oneCell' = true := by
  intro v hv
  simp only [u8s, List.mem_map] at hv
  obtain ⟨n, _, rfl⟩ := hv
  rfl
/-- append to an empty new row, of any slice of bytes -/
theorem step_own_bytes {ops : Array Oper} {o : Oper} {a : Act} {w : World} {K : Act → World → Prop} {Q : Exit → Act → World → Prop} {E : Prop} (hgd : o.guard = none) (s x : Operand)
    (ho : o.op = .call { callee := .builtin .append, args := #[s, x], argTypes := #[22, 22] }) (base g0 : Nat) (hs : a.eval s = .slice (some ⟨g0, 0, none⟩) 0 0) (hown : w.ownsRow base 5 1 (.slice (some ⟨g0, 0, none⟩) 0 0) 0 [])
    (sa : Option Addr) (m c : Nat) (l : List Nat) (hx : a.eval x = .slice sa m c) (hb : Bs w (.slice sa m c) l) (hnil : sa = none → c = 0) (hm : m ≤ 461168601842) (hbase : base ≤ w.heap.size)
    (hK : ∀ v' w', w'.ownsRow base 5 1 v' m (u8s l) → w.grownBy w' (some g0) → K (a.put o.dst v') w') :
    if Region.wanted o (yielded ops a.tmps) = true then Oper.wp Tryd.prog o a w K Q else E := by
  have hw : Region.wanted o (yielded ops a.tmps) = true := by simp [Region.wanted, hgd]
  rw [if_pos hw]
  obtain ⟨i0, hi, hz0, hz1, hz2⟩ := info_parts info5
  have hlen := hb.len
  cases sa with
  | none =>
    obtain rfl := hnil rfl
    have h0 : l = [] := by
      rcases hb.addr with ⟨h0, _⟩ | ⟨_, b, o', c', hv⟩
      · exact h0
      · simp at hv
    subst h0
    obtain rfl : m = 0 := hlen
    have hrun := run_append_owned_none (P := Tryd.prog) (w := w) base 22 o.type 5 i0 1 Tryd.underlying22 hi (.slice (some ⟨g0, 0, none⟩) 0 0) 0 [] hown
    unfold Oper.wp
    simp [execOp, ho, resolve, invoke, builtin, hs, hx, hrun, Result.andThen]
    exact hK _ _ hown (World.grownBy.refl w _)
  | some ad =>
    have hnews : ∀ j u, (u8s l)[j]? = some u → w.cell? (ad.add j) = some u := fun j u hj => by
      have hjl : j < l.length := by have := (List.getElem?_eq_some_iff.1 hj).1; simpa [u8s] using this
      rcases hb.addr with ⟨h0, _⟩ | ⟨_, b, o', c', hv⟩
      · rw [h0] at hjl; exact absurd hjl (Nat.not_lt_zero _)
      · simp only [Value.slice.injEq, Option.some.injEq] at hv
        obtain ⟨rfl, _, _⟩ := hv
        have hc := hb.cell j hjl
        have e : (⟨b, o', none⟩ : Addr).add j = ⟨b, o' + j, none⟩ := by unfold Addr.add; split <;> simp_all
        rw [e, hc, ← hj]
        simp [u8s, List.getElem?_eq_getElem hjl]
    refine wp_append_own w s x _ ho base 5 i0 (.int .u8 0) 1 1 Tryd.underlying22 hi hz0 hz1 hz2 rfl (by decide) _ 0 [] hs hown ad m c (u8s l) hx (by simp [u8s]; omega) hnews (u8s_oneS l) (by unfold maxLen; omega) (by omega) hbase ?_
    intro v' w' hown' hg hn
    rw [Nat.zero_add, List.nil_append] at hown'
    exact hK v' w' hown' hg
end Go.Proofs.YtafkjfpmjhfofaaDoor

namespace Go.Proofs.YtafkjfpmjhfofaaDoor
open Go Go.RowKit
set_option linter.unusedVariables false

theorem run_build0 (w : World) : (Instr.buildSlice 22 0 #[]).run Tryd.prog w = .ok (.slice (some ⟨w.heap.size, 0, none⟩) 0 0) (w.alloc (.cells #[] 5)) := by kernel_rfl
theorem step_build0 {ops : Array Oper} {o : Oper} {a : Act} {w : World} {K : Act → World → Prop} {Q : Exit → Act → World → Prop} {E : Prop} (hgd : o.guard = none) (ho : o.op = .buildSlice 22 0 #[])
    (h : ∀ g w', g = w.heap.size → w'.heap[g]? = some (.cells #[] 5 (0, 0)) → Below w.heap.size w w' → g < w'.heap.size → K (a.put o.dst (.slice (some ⟨g, 0, none⟩) 0 0)) w') : if Region.wanted o (yielded ops a.tmps) = true then Oper.wp Tryd.prog o a w K Q else E := by
  refine step_value (P := Tryd.prog) hgd (v := .slice (some ⟨w.heap.size, 0, none⟩) 0 0) (w' := w.alloc (.cells #[] 5)) ?_ (h w.heap.size _ rfl (heap_new _ _) ((Below.refl _ _).alloc (Nat.le_refl _) _) (by simp))
  have h1 := run_build0 w
  unfold execOp
  simp only [ho]
  simp [h1]
theorem own_emptyM {w : World} {base g : Nat} (h : w.heap[g]? = some (.cells #[] 5 (0, 0))) (hb : base ≤ g) : w.ownsRow base 5 1 (.slice (some ⟨g, 0, none⟩) 0 0) 0 [] :=
  ⟨rfl, .inr ⟨g, 0, #[], rfl, hb, h, Nat.le_refl _, Nat.zero_le _, rfl, rfl⟩⟩

/-- what a call of Make and the store of its manifest leave -/
structure MdR (fb k n t m : Nat) (l : List Nat) (mb g gd : Nat) (bf : Nat → Nat) (w1 w : World) : Prop where
  man : ManAt w mb k n t m (dig shaRound shaStart l) (.slice (some ⟨gd, 0, none⟩) t t)
  pcs : Pcs w g w1.heap.size t (plen k m) bf (encP l k (plen k m))
  rng : ∀ j, j < t → w.rangeAt gd (j * 32) (u8s (pdg shaRound shaStart l k (plen k m) j))
  th : w.there gd 0 (t * 32)
  built : Built w fb
  kept : Kept fb w1 w
  ne : gd ≠ g ∧ gd ≠ mb ∧ g ≠ mb ∧ ∀ j, j < t → bf j ≠ gd ∧ bf j ≠ mb
  low : w1.heap.size ≤ mb ∧ w1.heap.size ≤ gd ∧ w1.heap.size ≤ g
  up : mb < w.heap.size ∧ gd < w.heap.size ∧ g < w.heap.size ∧ ∀ j, j < t → bf j < w.heap.size

/-- the manifest's block was made behind the call -/
theorem md_late {fb rb mb0 k n t m mb g gd : Nat} {l : List Nat} {bf : Nat → Nat} {w1 wS wE wA wZ : World} (N : MkN fb rb mb0 g gd t bf wS) (R : MkR fb mb0 g gd k t m (plen k m) shaRound shaStart l bf wS wE) (hfb : fb < w1.heap.size)
    (hS : Below w1.heap.size w1 wS) (hmb : mb = wE.heap.size) (hA : Below wE.heap.size wE wA) (hml : mb < wA.heap.size) (hZ : wZ.heap[mb]? = some (.cells (mcells k n t m (dig shaRound shaStart l) (.slice (some ⟨gd, 0, none⟩) t t)).toArray 27 (0, 0))) (hk : Kept mb wA wZ) :
    MdR fb k n t m l mb g gd bf w1 wZ := by
  obtain ⟨n1, n2, n3, n4, n5⟩ := N.ne
  obtain ⟨l1, l2, l3, l4, l5, l6⟩ := N.low
  have hs := hS.size
  have hE := R.kept.size
  have hgl := R.pcs.own.lt
  have hgdl := R.gdl
  have hfl := R.built.lt
  have hz := hk.size
  have ha := hA.size
  have hbf : ∀ j, j < t → bf j < wE.heap.size := fun j hj => (R.pcs.row j hj).lt
  have hb : ∀ q, q < wE.heap.size → wZ.heap[q]? = wE.heap[q]? := fun q hq => (hk.block q (by omega) (by omega)).trans (hA.block q hq)
  refine ⟨hZ, ⟨(hb g hgl).trans R.pcs.own, fun j hj => (hb _ (hbf j hj)).trans (R.pcs.row j hj), fun j hj => Nat.le_trans hs (R.pcs.low j hj), R.pcs.inj, R.pcs.notb⟩, fun j hj => range_same (R.rng j hj) (hb gd hgdl), there_same R.th (hb gd hgdl), (hb fb hfl).trans R.built, ?_, ⟨n1, by omega, by omega, fun j hj => ⟨N.bfn j hj, by have := hbf j hj; omega⟩⟩, ⟨by omega, by omega, by omega⟩, ⟨by omega, by omega, by omega, fun j hj => by have := hbf j hj; omega⟩⟩
  exact ((Kept.of_below hS).trans R.kept).trans (((Kept.of_below hA).fresh hk (by omega)).trans (Kept.refl _ _))

/-- .. and ahead of it -/
theorem md_early {fb rb mb0 k n t m mb g gd : Nat} {l : List Nat} {bf : Nat → Nat} {w1 wS wE wZ : World} (N : MkN fb rb mb0 g gd t bf wS) (R : MkR fb mb0 g gd k t m (plen k m) shaRound shaStart l bf wS wE) (hfb : fb < w1.heap.size)
    (hS : Below w1.heap.size w1 wS) (hlo : w1.heap.size ≤ mb) (hml : mb < wS.heap.size) (hZ : wZ.heap[mb]? = some (.cells (mcells k n t m (dig shaRound shaStart l) (.slice (some ⟨gd, 0, none⟩) t t)).toArray 27 (0, 0))) (hk : Kept mb wE wZ) :
    MdR fb k n t m l mb g gd bf w1 wZ := by
  obtain ⟨n1, n2, n3, n4, n5⟩ := N.ne
  obtain ⟨l1, l2, l3, l4, l5, l6⟩ := N.low
  have hs := hS.size
  have hE := R.kept.size
  have hgl := R.pcs.own.lt
  have hgdl := R.gdl
  have hfl := R.built.lt
  have hz := hk.size
  have hbf : ∀ j, j < t → wS.heap.size ≤ bf j ∧ bf j < wE.heap.size := fun j hj => ⟨R.pcs.low j hj, (R.pcs.row j hj).lt⟩
  have hb : ∀ q, q < wE.heap.size → q ≠ mb → wZ.heap[q]? = wE.heap[q]? := fun q hq hne => hk.block q hq hne
  refine ⟨hZ, ⟨(hb g hgl (by omega)).trans R.pcs.own, fun j hj => (hb _ (hbf j hj).2 (by have := hbf j hj; omega)).trans (R.pcs.row j hj), fun j hj => Nat.le_trans hs (R.pcs.low j hj), R.pcs.inj, R.pcs.notb⟩, fun j hj => range_same (R.rng j hj) (hb gd hgdl (by omega)), there_same R.th (hb gd hgdl (by omega)), (hb fb hfl (by omega)).trans R.built, ?_, ⟨n1, by omega, by omega, fun j hj => ⟨N.bfn j hj, by have := hbf j hj; omega⟩⟩, ⟨hlo, by omega, by omega⟩, ⟨by omega, by omega, by omega, fun j hj => by have := hbf j hj; omega⟩⟩
  exact ((Kept.of_below hS).trans R.kept).fresh hk hlo
end Go.Proofs.YtafkjfpmjhfofaaDoor

namespace Go.Proofs.YtafkjfpmjhfofaaDoor
open Go Go.RowKit
set_option linter.unusedVariables false

theorem off_lowM {a : Option Addr} {n c B fb : Nat} (h : ∀ ad, a = some ad → B ≤ ad.block) (hB : fb < B) : Off fb (.slice a n c) := by
  cases a with
  | none => trivial
  | some ad => show ad.block ≠ fb; have := h ad rfl; omega
theorem nil_ownsM {w : World} {base m n c : Nat} {a : Option Addr} {xs : List Value} (h : w.ownsRow base 5 1 (.slice a n c) m xs) : a = none → c = 0 := fun e => by
  rcases h.2 with ⟨h1, _⟩ | ⟨g, cap, cur, h1, _⟩
  · simp only [Value.slice.injEq] at h1
    exact h1.2.2
  · simp only [Value.slice.injEq] at h1
    rw [h1.1] at e
    cases e
theorem owns_belowX {w w' : World} {base m s : Nat} {e : TypeId} {v : Value} {xs : List Value} (h : w.ownsRow base e s v m xs) (k : Below w.heap.size w w') : w'.ownsRow base e s v m xs := by
  obtain ⟨h1, h2⟩ := h
  exact ⟨h1, h2.imp id fun ⟨g, cap, cur, h3, h4, h5, r⟩ => ⟨g, cap, cur, h3, h4, (k.block g (lt_of_heap h5)).trans h5, r⟩⟩
theorem off_typeX {w : World} {base m n c : Nat} {a : Option Addr} {xs : List Value} (h : w.ownsRow base 5 1 (.slice a n c) m xs) {p : Nat} {cs : Array Value} {T : TypeId} {fr : Nat × Nat} (hp : w.heap[p]? = some (.cells cs T fr)) (hT : T ≠ 5) : Off p (.slice a n c) := by
  rcases h.2 with ⟨h1, _⟩ | ⟨g, cap, cur, h1, _, h3, _⟩
  · simp only [Value.slice.injEq] at h1
    rw [h1.1]; trivial
  · simp only [Value.slice.injEq] at h1
    rw [h1.1]
    show g ≠ p
    rintro rfl
    rw [h3] at hp
    simp at hp
    exact hT hp.2.1.symm
/-- the manifest mb, the pieces and the error that a call of Make, begun at wS and ended at wE, has left -/
structure MdX (fb : Nat) (Post : World → World → Array Value → Value → Value → Prop) (mb : Nat) (M : Array Value) (pv ev : Value) (w1 w : World) : Prop where
  ex : ∃ wS wE, Below w1.heap.size w1 wS ∧ Post wS wE M pv ev ∧ Kept fb wS wE ∧ (mb < wS.heap.size ∨ wE.heap.size ≤ mb) ∧ (∀ q, q < wE.heap.size → q ≠ mb → w.heap[q]? = wE.heap[q]?) ∧ wE.heap.size ≤ w.heap.size
  at_ : w.heap[mb]? = some (.cells M 27 (0, 0))
  low : w1.heap.size ≤ mb
  up : mb < w.heap.size
  kept : Kept fb w1 w
theorem mdx_late {fb mb : Nat} {Post : World → World → Array Value → Value → Value → Prop} {M : Array Value} {pv ev : Value} {w1 wS wE wA wZ : World} (hS : Below w1.heap.size w1 wS) (hP : Post wS wE M pv ev) (hE : Kept fb wS wE)
    (hmb : mb = wE.heap.size) (hA : Below wE.heap.size wE wA) (hml : mb < wA.heap.size) (hZ : wZ.heap[mb]? = some (.cells M 27 (0, 0))) (hk : Kept mb wA wZ) : MdX fb Post mb M pv ev w1 wZ := by
  have h1 := hS.size
  have h2 := hE.size
  have h3 := hA.size
  have h4 := hk.size
  refine ⟨⟨wS, wE, hS, hP, hE, .inr (by omega), fun q hq hne => (hk.block q (by omega) hne).trans (hA.block q hq), by omega⟩, hZ, by omega, by omega, ?_⟩
  exact (((Kept.of_below hS).trans hE).trans (Kept.of_below hA)).fresh hk (by omega)
theorem mdx_early {fb mb : Nat} {Post : World → World → Array Value → Value → Value → Prop} {M : Array Value} {pv ev : Value} {w1 wS wE wZ : World} (hS : Below w1.heap.size w1 wS) (hP : Post wS wE M pv ev) (hE : Kept fb wS wE)
    (hlo : w1.heap.size ≤ mb) (hml : mb < wS.heap.size) (hZ : wZ.heap[mb]? = some (.cells M 27 (0, 0))) (hk : Kept mb wE wZ) : MdX fb Post mb M pv ev w1 wZ := by
  have h1 := hS.size
  have h2 := hE.size
  have h4 := hk.size
  refine ⟨⟨wS, wE, hS, hP, hE, .inl hml, fun q hq hne => hk.block q hq hne, by omega⟩, hZ, hlo, by omega, ?_⟩
  exact ((Kept.of_below hS).trans hE).fresh hk hlo
/-- what Make answers where its arguments are right -/
def MkPost (fb k n t m : Nat) (l : List Nat) (wS wE : World) (M : Array Value) (pv ev : Value) : Prop :=
  ∃ rb mb0 g gd bf, MkN fb rb mb0 g gd t bf wS ∧ M = (mcells k n t m (dig shaRound shaStart l) (.slice (some ⟨gd, 0, none⟩) t t)).toArray ∧ pv = .slice (some ⟨g, 0, none⟩) t t ∧ ev = .int .i64 0 ∧ MkR fb mb0 g gd k t m (plen k m) shaRound shaStart l bf wS wE
theorem MdX.good {fb k n t m mb : Nat} {l : List Nat} {M : Array Value} {pv ev : Value} {w1 w : World} (h : MdX fb (MkPost fb k n t m l) mb M pv ev w1 w) (hfb : fb < w1.heap.size) :
    ∃ g gd bf, pv = .slice (some ⟨g, 0, none⟩) t t ∧ ev = .int .i64 0 ∧ MdR fb k n t m l mb g gd bf w1 w := by
  obtain ⟨wS, wE, hS, ⟨rb, mb0, g, gd, bf, N, rfl, rfl, rfl, R⟩, hE, hor, hb, hsz⟩ := h.ex
  obtain ⟨n1, n2, n3, n4, n5⟩ := N.ne
  obtain ⟨l1, l2, l3, l4, l5, l6⟩ := N.low
  have hs := hS.size
  have hEs := hE.size
  have hgl := R.pcs.own.lt
  have hgdl := R.gdl
  have hfl := R.built.lt
  have hlo := h.low
  have hbf : ∀ j, j < t → wS.heap.size ≤ bf j ∧ bf j < wE.heap.size := fun j hj => ⟨R.pcs.low j hj, (R.pcs.row j hj).lt⟩
  refine ⟨g, gd, bf, rfl, rfl, h.at_, ⟨(hb g hgl (by omega)).trans R.pcs.own, fun j hj => (hb _ (hbf j hj).2 (by have := hbf j hj; omega)).trans (R.pcs.row j hj), fun j hj => Nat.le_trans hs (R.pcs.low j hj), R.pcs.inj, R.pcs.notb⟩, fun j hj => range_same (R.rng j hj) (hb gd hgdl (by omega)), there_same R.th (hb gd hgdl (by omega)), (hb fb hfl (by omega)).trans R.built, h.kept, ⟨n1, by omega, by omega, fun j hj => ⟨N.bfn j hj, by have := hbf j hj; omega⟩⟩, ⟨hlo, by omega, by omega⟩, ⟨h.up, by omega, by omega, fun j hj => by have := hbf j hj; omega⟩⟩
/-- what Make leaves stays through what keeps all blocks but the field's -/
theorem MdR.step {fb k n t m mb g gd : Nat} {l : List Nat} {bf : Nat → Nat} {w1 w w' : World} (h : MdR fb k n t m l mb g gd bf w1 w) (k' : Kept fb w w') (hfb : fb < w1.heap.size) (hbu : Built w' fb) : MdR fb k n t m l mb g gd bf w1 w' := by
  obtain ⟨l1, l2, l3⟩ := h.low
  obtain ⟨u1, u2, u3, u4⟩ := h.up
  have hz := k'.size
  have hb : ∀ q, q < w.heap.size → q ≠ fb → w'.heap[q]? = w.heap[q]? := fun q hq hne => k'.block q hq hne
  have hbl : ∀ j, j < t → w1.heap.size ≤ bf j := fun j hj => h.pcs.low j hj
  exact ⟨(hb mb u1 (by omega)).trans h.man, ⟨(hb g u3 (by omega)).trans h.pcs.own, fun j hj => (hb _ (u4 j hj) (by have := hbl j hj; omega)).trans (h.pcs.row j hj), h.pcs.low, h.pcs.inj, h.pcs.notb⟩, fun j hj => range_same (h.rng j hj) (hb gd u2 (by omega)), there_same h.th (hb gd u2 (by omega)), hbu, h.kept.trans k', h.ne, ⟨l1, l2, l3⟩, ⟨by omega, by omega, by omega, fun j hj => by have := u4 j hj; omega⟩⟩
end Go.Proofs.YtafkjfpmjhfofaaDoor

namespace Go.Proofs.YtafkjfpmjhfofaaDoor
open Go Go.RowKit
set_option linter.unusedVariables false

theorem wpList_load_wantD {P : Program} {ops : Array Oper} {rest : List Oper} {op : Oper} {a : Act} {w : World} {Q : Exit → Act → World → Prop} (hw : Region.wanted op (yielded ops a.tmps) = true) (ty : TypeId) (x : Operand) (ho : op.op = .load ty x)
    (b o : Nat) (hx : a.eval x = .pointer (some ⟨b, o, none⟩)) (cs : List Value) (d : TypeDesc) (hc : w.rangeAt b o cs)
    (hu : P.underlying ty = some d) (hd : d.isRow = true) (hi : (P.info? ty).map (·.size) = some cs.length)
    (h : wpList P ops Q rest (a.put op.dst (.agg cs.toArray)) w) : wpList P ops Q (op :: rest) a w :=
  BigFrame.wpList_want hw fun _ hK => wp_load_mid ty x ho b o hx cs d hc hu hd hi (hK _ _ h)
theorem step_load_midD {P : Program} {ops : Array Oper} {o : Oper} {a : Act} {w : World} {K : Act → World → Prop} {Q : Exit → Act → World → Prop} {E : Prop} (hgd : o.guard = none) (ty : TypeId) (x : Operand) (ho : o.op = .load ty x)
    (b off : Nat) (hx : a.eval x = .pointer (some ⟨b, off, none⟩)) (cs : List Value) (d : TypeDesc) (hc : w.rangeAt b off cs)
    (hu : P.underlying ty = some d) (hd : d.isRow = true) (hi : (P.info? ty).map (·.size) = some cs.length)
    (h : K (a.put o.dst (.agg cs.toArray)) w) : if Region.wanted o (yielded ops a.tmps) = true then Oper.wp P o a w K Q else E := by
  rw [if_pos (by simp [Region.wanted, hgd])]
  exact wp_load_mid ty x ho b off hx cs d hc hu hd hi h
theorem wpQuiet_load_midD {P : Program} {ops : Array Oper} {rest : List Oper} {o : Oper} {a : Act} {w : World} {Q : Act → Prop} (hgd : o.guard = none) (ty : TypeId) (x : Operand) (ho : o.op = .load ty x)
    (b off : Nat) (hx : a.eval x = .pointer (some ⟨b, off, none⟩)) (cs : List Value) (d : TypeDesc) (hc : w.rangeAt b off cs)
    (hu : P.underlying ty = some d) (hd : d.isRow = true) (hi : (P.info? ty).map (·.size) = some cs.length)
    (h : wpQuiet P ops (fun w' => ∃ n, w' = w.drewN n) Q rest (a.put o.dst (.agg cs.toArray))) : wpQuiet P ops (fun w' => ∃ n, w' = w.drewN n) Q (o :: rest) a :=
  wpQuiet_step fun K hK => by
    rw [if_pos (by simp [Region.wanted, hgd])]
    refine ⟨.agg cs.toArray, ?_, hK _ h⟩
    rintro w' ⟨n, rfl⟩
    have hr := run_loadVar_mid (P := P) (w.drewN n) b off ty cs d hc hu hd hi
    unfold Oper.quietAt execOp
    simp only [ho, hx, Instr.loadAt, Instr.sureAddr, Sem.run_bind, Sem.run_pure, Result.andThen_ok, hr]
    exact ⟨rfl, rfl⟩
theorem man_range4 {w : World} {b : Nat} {k n t s : Int} {od : List Nat} {v : Value} (h : ManAt w b k n t s od v) : w.rangeAt b 4 (u8s od) := fun j u hj => by
  have h1 := range_of_heapO h (4 + j) u (by
    unfold mcells
    rw [List.append_assoc, List.getElem?_append_right (by simp), List.getElem?_append_left (by simp; exact (List.getElem?_eq_some_iff.1 hj).1)]
    simpa using hj)
  rwa [Nat.zero_add] at h1
theorem range_drewN {w : World} {b o : Nat} {cs : List Value} (h : w.rangeAt b o cs) (n : Nat) : (w.drewN n).rangeAt b o cs := h

set_option maxRecDepth 100000 in
set_option maxHeartbeats 2000000 in
theorem same_man (k n t s : Int) (od : List Nat) (a a' : Option Addr) (m c c' : Nat) (D : List (List Nat)) (w : World) (hod : od.length = 32) (hb : Dgs w a m c D) (hb' : Dgs w a' m c' D) (hm : m ≤ 100000) :
    Calls Tryd.prog 16 #[.agg (mcells k n t s od (.slice a m c)).toArray, .agg (mcells k n t s od (.slice a' m c')).toArray] w fun e w' => e = .returned (.bool true) ∧ Below w.heap.size w w' := by
  obtain ⟨w2, hw2⟩ : ∃ y, y = (w.alloc (.cells (mcells k n t s od (.slice a m c)).toArray 27)).alloc (.cells (mcells k n t s od (.slice a' m c')).toArray 27) := ⟨_, rfl⟩
  have hs1 : (w.alloc (.cells (mcells k n t s od (.slice a m c)).toArray 27)).heap.size = w.heap.size + 1 := by simp
  have hb2 : Below w.heap.size w w2 := by rw [hw2]; exact ((Below.refl _ _).alloc (Nat.le_refl _) _).alloc (by simp) _
  have HM2 := hid (show ManAt w2 w.heap.size k n t s od (.slice a m c) from by
    rw [hw2]
    exact (heap_alloc_old _ _ (by simp)).trans (heap_new _ _))
  have HN2 := hid (show ManAt w2 (w.heap.size + 1) k n t s od (.slice a' m c') from by rw [hw2, ← hs1]; exact heap_new _ _)
  have HB2 := hid hb2
  obtain ⟨c0, c1, c2, c3, c36⟩ := HM2.out.c hod
  obtain ⟨d0, d1, d2, d3, d36⟩ := HN2.out.c hod
  have HRA := hid (man_range4 HM2.out)
  have HRB := hid (man_range4 HN2.out)
  have HIF := hid (show (Tryd.prog.info? 24).map (·.size) = some (u8s od).length from by rw [show (u8s od).length = 32 from by simp [u8s, hod]]; kernel_rfl)
  have e1 := fun wx => eql_sameD od hod wx
  have HD := hid (hb.below hb2)
  have HD' := hid (hb'.below hb2)
  have HL := hid hb.len
  clear hs1 hb2 hb hb' hod
  go_enter Tryd.func16, Tryd.ntmps16
  go_upto_region 1 with fail
  change Code.wp _ _ _ _ ((w.alloc (.cells (mcells k n t s od (.slice a m c)).toArray 27)).alloc (.cells (mcells k n t s od (.slice a' m c')).toArray 27))
  rw [← hw2]
  clear hw2
  go_wp2_with (first
    | (refine wpList_load_wantD (by rfl) 24 (.tmp 33) (by rfl) w.heap.size 4 (by rfl) (u8s od) _ HRA.out Tryd.underlying24 rfl HIF.out ?_)
    | (refine wpList_load_wantD (by rfl) 24 (.tmp 35) (by rfl) (w.heap.size + 1) 4 (by rfl) (u8s od) _ HRB.out Tryd.underlying24 rfl HIF.out ?_))
  clear c0 c1 c2 c3 d0 d1 d2 d3 e1 HRA HRB HIF
  go_loopw [5] (fun iv wr => ∃ i : Nat, i ≤ m ∧ iv = .int .i64 i ∧ Hid (Below w2.heap.size w2 wr)) (fun iv _ => m - (intOf iv).toNat)
  case atStart => exact ⟨0, by omega, rfl, hid (Below.refl _ _)⟩
  case round =>
    obtain ⟨i, hi, rfl, HB⟩ := hrel
    have hlt1 : w.heap.size + 1 < w2.heap.size := lt_of_heap HN2.out
    have hlt0 : w.heap.size < w2.heap.size := by omega
    have c36 := (HB.out.cell (p := ⟨w.heap.size, 36, none⟩) hlt0).trans c36
    have d36 := (HB.out.cell (p := ⟨w.heap.size + 1, 36, none⟩) hlt1).trans d36
    by_cases him : i < m
    · have hI : (i : Int) < (m : Int) := by omega
      have hne : D ≠ [] := fun e => by have h := HL.out; rw [e] at h; simp at h; omega
      obtain ⟨_, _, hv, hDl, hr⟩ := HD.out.at_
      obtain ⟨b1, o1, rfl, hr1⟩ := hr hne
      simp only [Value.slice.injEq] at hv
      obtain ⟨rfl, -, rfl⟩ := hv
      obtain ⟨_, _, hv, -, hr⟩ := HD'.out.at_
      obtain ⟨b2, o2, rfl, hr2⟩ := hr hne
      simp only [Value.slice.injEq] at hv
      obtain ⟨rfl, -, rfl⟩ := hv
      have hiD : i < D.length := by rw [← HL.out]; exact him
      have g1 := range_below (hr1 i hiD) HB.out
      have g2 := range_below (hr2 i hiD) HB.out
      have hd32 : (D.getD i []).length = 32 := by rw [List.getD_eq_getElem?_getD, List.getElem?_eq_getElem hiD]; exact (hDl _ (List.getElem_mem _)).1
      generalize D.getD i [] = d at *
      obtain ⟨d', hd'⟩ : ∃ x, x = d := ⟨_, rfl⟩
      rw [← hd'] at g2
      have HDD := hid hd'
      have HG1 := hid g1
      have HG2 := hid g2
      have hif2 : (Tryd.prog.info? 24).map (·.size) = some (u8s d').length := by rw [hd', show (u8s d).length = 32 from by simp [u8s, hd32]]; kernel_rfl
      have HIF := hid (show (Tryd.prog.info? 24).map (·.size) = some (u8s d).length from by rw [show (u8s d).length = 32 from by simp [u8s, hd32]]; kernel_rfl)
      have e1 : ∀ wx, (Op.equalIn 10000 24 (.agg (u8s d).toArray) (.agg (u8s d').toArray)).run Tryd.prog wx = .ok true wx := fun wx => by rw [hd']; exact eql_sameD d hd32 wx
      clear hd'
      have K0 := hid (show wr.drew.cell? ⟨w.heap.size, 36, none⟩ = some (.slice (some ⟨b1, o1, none⟩) m c) ∧ wr.drew.cell? ⟨w.heap.size + 1, 36, none⟩ = some (.slice (some ⟨b2, o2, none⟩) m c') ∧ wr.drew.rangeAt b1 (o1 + i * 32) (u8s d) ∧ wr.drew.rangeAt b2 (o2 + i * 32) (u8s d') from ⟨c36, d36, HG1.out, HG2.out⟩)
      have hu := Tryd.underlying24
      have hif := HIF.out
      clear hr1 hr2 hDl g1 g2 hd32 hne hr
      go_wp2
      refine wp_region_quiet_lit (by kernel_rfl) (by kernel_rfl) ?_
      repeat (any_goals (first
        | (refine wpQuiet_load_midD (by rfl) 24 (.tmp 58) (by rfl) b1 (o1 + i * 32) (by rfl) (u8s d) _ HG1.out Tryd.underlying24 rfl HIF.out ?_)
        | (refine wpQuiet_load_midD (by rfl) 24 (.tmp 63) (by rfl) b2 (o2 + i * 32) (by rfl) (u8s d') _ HG2.out Tryd.underlying24 rfl hif2 ?_)
        | go_big_quiet_step (fail)
        | quiet_step (fail)))
      refine wpQuiet_nil ?_
      intro _ hw'
      obtain ⟨nq, hw''⟩ := hw'
      subst hw''
      all_goals
        have HBN := hid (bel_drewN HB.out nq)
        clear hu hif hif2
        go_wp2
        exact ⟨⟨i + 1, by omega, by go_num, HBN⟩, by simp [intOf]; omega⟩
    · obtain rfl : i = m := by omega
      have hI : ¬ ((i : Int) < (i : Int)) := by omega
      have HF := hid (HB2.out.trans (HB.out.mono HB2.out.size))
      go_wp2
      go_ret
      exact ⟨rfl, HF.out⟩
end Go.Proofs.YtafkjfpmjhfofaaDoor
