/-
  Digests in memory; a copy of a list of digests. · The given argument of chapter 2 that is a case. · A case in memory; large. · CRC32C: the remainder, bit by bit. · Hex: a digest as digits. · Values: the CRC of nine bytes. · NewField. · Parts of a slice of bytes. · What the walks of the laws take of: constants as bytes, blocks that read as bytes or digests.
-/
import Derived.Test.YtehjikogdaclgaaDoorBb8
import Derived.Test.YtehjikogdaclgaaDoorBb10
import Derived.Laws.AppendOwnNone
import Derived.Deep.MidRow
import Derived.Deep.QuietTactic
import Derived.BigQuiet
import Derived.ChangeArms
import Derived.WideShapes
import Derived.Test.YtehjikogdaclgaaDoorBb1
import Derived.Test.YtehjikogdaclgaaDoorBb2
import Derived.Test.YtehjikogdaclgaaDoorBb6
import Derived.Lib.Tables
import Derived.Test.YtehjikogdaclgaaDoorBb4
import Derived.Deep.RegionWith
import Derived.Test.YtehjikogdaclgaaDoorBb7
import Derived.Test.YtehjikogdaclgaaDoorBb5
import Derived.Lib.SlBytesConst
namespace Go.Proofs.YtehjikogdaclgaaDoor
open Go Go.RowKit
set_option linter.unusedVariables false

/-- the cells of digests, one behind the other -/
def dcl (D : List (List Nat)) : List Value := D.flatMap u8s
theorem dcl_length (D : List (List Nat)) (h : ∀ d ∈ D, d.length = 32) : (dcl D).length = 32 * D.length := by
  induction D with
  | nil => rfl
  | cons d r ih =>
    have h1 := ih (fun x hx => h x (List.mem_cons_of_mem _ hx))
    have h2 := h d List.mem_cons_self
    unfold dcl at h1 ⊢
    rw [List.flatMap_cons, List.length_append, h1, List.length_cons]
    simp only [u8s, List.length_map, h2]
    omega
theorem dcl_one (D : List (List Nat)) : ∀ u ∈ dcl D, u.oneCell' = true := fun u hu => by
  unfold dcl at hu
  obtain ⟨d, _, hd⟩ := List.mem_flatMap.1 hu
  exact u8s_oneH d u hd
theorem range_app {w : World} {b o : Nat} {xs ys : List Value} (h1 : w.rangeAt b o xs) (h2 : w.rangeAt b (o + xs.length) ys) : w.rangeAt b o (xs ++ ys) := fun j v hj => by
  by_cases h : j < xs.length
  · rw [List.getElem?_append_left h] at hj
    exact h1 j v hj
  · rw [List.getElem?_append_right (by omega)] at hj
    have h3 := h2 _ v hj
    rwa [show o + xs.length + (j - xs.length) = o + j from by omega] at h3
theorem range_left {w : World} {b o : Nat} {xs ys : List Value} (h : w.rangeAt b o (xs ++ ys)) : w.rangeAt b o xs := fun j v hj => h j v (by rw [List.getElem?_append_left (List.getElem?_eq_some_iff.1 hj).1]; exact hj)
theorem range_right {w : World} {b o : Nat} {xs ys : List Value} (h : w.rangeAt b o (xs ++ ys)) : w.rangeAt b (o + xs.length) ys := fun j v hj => by
  have h1 := h (xs.length + j) v (by rw [List.getElem?_append_right (by omega), Nat.add_sub_cancel_left]; exact hj)
  rwa [← Nat.add_assoc] at h1
theorem dcl_range (w : World) (b : Nat) : ∀ (D : List (List Nat)) (o : Nat), (∀ d ∈ D, d.length = 32) → (∀ j, j < D.length → w.rangeAt b (o + j * 32) (u8s (D.getD j []))) → w.rangeAt b o (dcl D)
  | [], o, _, _ => fun j v hj => by cases hj
  | d :: r, o, hl, h => by
    have h0 := h 0 (by simp)
    rw [Nat.zero_mul, Nat.add_zero] at h0
    have hd : (u8s d).length = 32 := by simp [u8s, hl d List.mem_cons_self]
    refine range_app h0 ?_
    show w.rangeAt b (o + (u8s d).length) _
    rw [hd]
    refine dcl_range w b r (o + 32) (fun x hx => hl x (List.mem_cons_of_mem _ hx)) fun j hj => ?_
    have h1 := h (j + 1) (by simp only [List.length_cons]; omega)
    rw [List.getD_cons_succ] at h1
    rwa [show o + 32 + j * 32 = o + (j + 1) * 32 from by omega]
theorem range_dcl (w : World) (b : Nat) : ∀ (D : List (List Nat)) (o : Nat), (∀ d ∈ D, d.length = 32) → w.rangeAt b o (dcl D) → ∀ j, j < D.length → w.rangeAt b (o + j * 32) (u8s (D.getD j []))
  | [], o, _, _, j, hj => absurd hj (Nat.not_lt_zero _)
  | d :: r, o, hl, h, 0, _ => by
    rw [Nat.zero_mul, Nat.add_zero]
    exact range_left (ys := dcl r) h
  | d :: r, o, hl, h, j + 1, hj => by
    have hd : (u8s d).length = 32 := by simp [u8s, hl d List.mem_cons_self]
    have h1 := range_right (xs := u8s d) (ys := dcl r) h
    rw [hd] at h1
    have h2 := range_dcl w b r (o + 32) (fun x hx => hl x (List.mem_cons_of_mem _ hx)) h1 j (by simpa using hj)
    rw [List.getD_cons_succ]
    rwa [show o + 32 + j * 32 = o + (j + 1) * 32 from by omega] at h2
/-- digests in memory, and the slice's bounds -/
structure Dgs (w : World) (a : Option Addr) (m c : Nat) (D : List (List Nat)) : Prop where
  at_ : DgAt w (.slice a m c) D
  cap : m ≤ c
  nil : a = none → c = 0
theorem Dgs.len {w : World} {a : Option Addr} {m c : Nat} {D : List (List Nat)} (h : Dgs w a m c D) : m = D.length := by
  obtain ⟨a', c', h1, _⟩ := h.at_
  simp only [Value.slice.injEq] at h1
  exact h1.2.1
theorem Dgs.l32 {w : World} {a : Option Addr} {m c : Nat} {D : List (List Nat)} (h : Dgs w a m c D) : ∀ d ∈ D, d.length = 32 := by
  obtain ⟨a', c', _, h2, _⟩ := h.at_
  exact fun d hd => (h2 d hd).1
theorem Dgs.rng {w : World} {a : Option Addr} {m c : Nat} {D : List (List Nat)} (h : Dgs w a m c D) (hne : D ≠ []) : ∃ b o, a = some ⟨b, o, none⟩ ∧ w.rangeAt b o (dcl D) := by
  obtain ⟨a', c', h1, h2, h3⟩ := h.at_
  obtain ⟨b, o, rfl, h4⟩ := h3 hne
  simp only [Value.slice.injEq] at h1
  exact ⟨b, o, h1.1, dcl_range w b D o (fun d hd => (h2 d hd).1) h4⟩
theorem Dgs.below {w w' : World} {a : Option Addr} {m c : Nat} {D : List (List Nat)} (h : Dgs w a m c D) (k : Below w.heap.size w w') : Dgs w' a m c D := by
  refine ⟨?_, h.cap, h.nil⟩
  obtain ⟨a', c', h1, h2, h3⟩ := h.at_
  refine ⟨a', c', h1, h2, fun hne => ?_⟩
  obtain ⟨b, o, e, h4⟩ := h3 hne
  exact ⟨b, o, e, fun j hj => range_below (h4 j hj) k⟩
theorem Dgs.kept {w w' : World} {a : Option Addr} {m c b : Nat} {D : List (List Nat)} (h : Dgs w a m c D) (k : Kept b w w') (hb : ∀ ad, a = some ad → ad.block ≠ b) : Dgs w' a m c D := by
  refine ⟨?_, h.cap, h.nil⟩
  obtain ⟨a', c', h1, h2, h3⟩ := h.at_
  refine ⟨a', c', h1, h2, fun hne => ?_⟩
  obtain ⟨q, o, e, h4⟩ := h3 hne
  simp only [Value.slice.injEq] at h1
  refine ⟨q, o, e, fun j hj u v hu => ?_⟩
  have h5 := h4 j hj u v hu
  rw [World.cell?_of_block (a := ⟨q, o + j * 32 + u, none⟩) (k.block q (World.block_lt_of_cell? _ _ h5) (hb _ (h1.1.trans e)))]
  exact h5
theorem dgs_of_owns {w : World} {base n : Nat} {v : Value} {D : List (List Nat)} (h : w.ownsRow base 24 32 v n (dcl D)) (hl : ∀ d ∈ D, d.length = 32 ∧ ∀ x ∈ d, x < 256) (hn : n = D.length) : ∃ a c, v = .slice a n c ∧ Dgs w a n c D ∧ ∀ ad, a = some ad → base ≤ ad.block := by
  obtain ⟨h1, h2⟩ := h
  rcases h2 with ⟨rfl, rfl⟩ | ⟨g, cap, cur, rfl, h4, h5, h6, h7, h8, h9⟩
  · have hD : D = [] := List.length_eq_zero_iff.1 hn.symm
    subst hD
    exact ⟨none, 0, rfl, ⟨⟨none, 0, rfl, hl, fun e => absurd rfl e⟩, Nat.le_refl _, fun _ => rfl⟩, fun ad e => by cases e⟩
  · refine ⟨_, cap, rfl, ⟨⟨_, cap, by rw [← hn], hl, fun _ => ⟨g, 0, rfl, range_dcl w g D 0 (fun d hd => (hl d hd).1) fun j v hj => ?_⟩⟩, by omega, fun e => by cases e⟩, fun ad e => by cases e; exact h4⟩
    rw [Nat.zero_add, cell_of_heap h5]
    have hj2 := (List.getElem?_eq_some_iff.1 hj).1
    rw [← hj, ← h9, List.getElem?_take_of_lt (by omega)]
    simp
theorem wpList_cloneD {w : World} {ops : Array Oper} {rest : List Oper} {o : Oper} {a : Act} {Q : Exit → Act → World → Prop} (hgd : o.guard = none) (s x : Operand)
    (ho : o.op = .call { callee := .builtin .append, args := #[s, x], argTypes := #[25, 25] }) (g0 : Nat) (hs : a.eval s = .slice (some ⟨g0, 0, none⟩) 0 0) (hg0 : w.heap[g0]? = some (.cells #[] 24 (0, 0)))
    (sa : Option Addr) (m c : Nat) (D : List (List Nat)) (hx : a.eval x = .slice sa m c) (hb : Dgs w sa m c D) (hm : m ≤ 100000)
    (h : ∀ a' c' w', Dgs w' a' m c' D → (∀ ad, a' = some ad → g0 ≤ ad.block) → Kept g0 w w' → wpList Tryd.prog ops Q rest (a.put o.dst (.slice a' m c')) w') :
    wpList Tryd.prog ops Q (o :: rest) a w := by
  obtain ⟨i0, hi, hz0, hz1, hz2⟩ := info_parts info52
  have hown : w.ownsRow g0 24 32 (.slice (some ⟨g0, 0, none⟩) 0 0) 0 [] := ⟨rfl, .inr ⟨g0, 0, #[], rfl, Nat.le_refl _, hg0, Nat.le_refl _, Nat.zero_le _, rfl, rfl⟩⟩
  have hlt := lt_of_heap hg0
  have hlen := hb.len
  have hDl : ∀ d ∈ D, d.length = 32 ∧ ∀ x ∈ d, x < 256 := by obtain ⟨_, _, _, h2, _⟩ := hb.at_; exact h2
  have fin : ∀ v' w', w'.ownsRow g0 24 32 v' m (dcl D) → Kept g0 w w' → wpList Tryd.prog ops Q rest (a.put o.dst v') w' := fun v' w' h1 h2 => by
    obtain ⟨a', c', rfl, h3, h4⟩ := dgs_of_owns h1 hDl hlen
    exact h a' c' w' h3 h4 h2
  by_cases hD : D = []
  · subst hD
    obtain rfl : m = 0 := hlen
    cases sa with
    | none =>
      refine Go.wpList_append_own_none hgd s x _ ho g0 _ i0 32 Tryd.underlying25 hi _ 0 [] hs hown (by rw [hx, hb.nil rfl]) ?_
      exact fin _ _ hown (Kept.refl _ _)
    | some ad =>
      refine Go.wpList_append_own _ hgd s x _ ho g0 24 i0 _ 32 32 Tryd.underlying25 hi hz0 hz1 hz2 rfl (by decide) _ 0 [] hs hown ad 0 c [] hx rfl (fun j u hj => by cases hj) (fun u hu => absurd hu List.not_mem_nil) (by unfold maxLen; omega) (by omega) (by omega) ?_
      intro v' w' hown' hg hn
      exact fin _ _ hown' ⟨hg.os, hg.tape, hg.output, hg.size, fun k hk hkg => hg.block k hk (by intro e; exact hkg (Option.some.inj e))⟩
  · obtain ⟨b, o', rfl, hr⟩ := hb.rng hD
    refine Go.wpList_append_own _ hgd s x _ ho g0 24 i0 _ 32 32 Tryd.underlying25 hi hz0 hz1 hz2 rfl (by decide) _ 0 [] hs hown ⟨b, o', none⟩ m c (dcl D) hx (by rw [dcl_length D (fun d hd => (hDl d hd).1)]; omega) (fun j u hj => by rw [add_noneD]; exact hr j u hj) (dcl_one D) (by unfold maxLen; omega) (by omega) (by omega) ?_
    intro v' w' hown' hg hn
    rw [Nat.zero_add, List.nil_append] at hown'
    exact fin _ _ hown' ⟨hg.os, hg.tape, hg.output, hg.size, fun k hk hkg => hg.block k hk (by intro e; exact hkg (Option.some.inj e))⟩

theorem range_of_heapO {w : World} {b : Nat} {cs : List Value} {T : TypeId} (h : w.heap[b]? = some (.cells cs.toArray T (0, 0))) : w.rangeAt b 0 cs := fun j v hj => by
  rw [Nat.zero_add, cell_of_heap h, List.getElem?_toArray]
  exact hj
theorem mz_sizeO : mz.size = 37 := by kernel_rfl
theorem man_rowO {w : World} {b : Nat} {k n t s : Int} {od : List Nat} {v : Value} (h : ManAt w b k n t s od v) (hod : od.length = 32) (v' : Value) : ManAt (w.setCell ⟨b, 36, none⟩ v') b k n t s od v' := by
  have h1 := heap_set h 36 v'
  unfold ManAt
  rw [h1, List.setIfInBounds_toArray]
  congr 3
  unfold mcells
  rw [List.set_append_right _ _ (by simp [u8s, hod])]
  simp [u8s, hod]
end Go.Proofs.YtehjikogdaclgaaDoor

namespace Go.Proofs.YtehjikogdaclgaaDoor
open Go.ChangeShapes Go.WideShapes Go.ChangeAt Go.RowKit
set_option linter.unusedVariables false

def cellND (v : Option Value) : Nat := match v with | some (.int _ n) => n.toNat | _ => 0
theorem chunkL {l : List Value} {off c : Nat} {v : Value} (h : (l.drop off).take c = [v]) : l[off]? = some v := by
  have h1 := getElem?_of_chunk (xs := l.toArray) h
  simpa using h1
section
variable {H : Type} {enc : TypeId × Value → H} {W : World}
theorem open_arr32D {fuel : Nat} {cs : List Value} {x : DataW H × List MemPlace} (h : DataW.trod enc Tryd.prog W 0 (fun _ => true) true fuel 24 cs = some x) (hcs : cs.length = 32) :
    ∃ l : List Nat, cs = u8s l ∧ l.length = 32 ∧ ∀ y ∈ l, y < 256 := by
  have hc1 : Tryd.prog.cellsOf 5 = 1 := by kernel_rfl
  obtain ⟨xs, m, _, _, _, hxl, hall⟩ := DataW.trod_array Tryd.underlying24 h
  have each : ∀ i, i < 32 → ∃ n : Nat, cs[i]? = some (.int .u8 (n : Int)) ∧ n < 256 := fun i hi => by
    have h1 := hall i hi
    rw [hc1, List.getElem?_eq_getElem (show i < xs.length by omega)] at h1
    obtain ⟨n, h2, _, hw⟩ := DataW.trod_int Tryd.underlying5 h1
    have h3 := chunkL h2
    have h4 := bounds_u8 hw
    exact ⟨n.toNat, by rw [Nat.mul_one] at h3; rw [h3, Int.toNat_of_nonneg h4.1], by omega⟩
  refine ⟨(List.range 32).map fun i => cellND cs[i]?, ?_, by simp, fun y hy => ?_⟩
  · apply List.ext_getElem?
    intro i
    by_cases hi : i < 32
    · obtain ⟨n, h1, h2⟩ := each i hi
      rw [h1]
      unfold u8s
      rw [List.getElem?_map, List.getElem?_map, List.getElem?_range hi]
      show _ = some (Value.int .u8 ((cellND cs[i]? : Nat) : Int))
      rw [h1]
      rfl
    · rw [List.getElem?_eq_none (by omega), List.getElem?_eq_none (by simp [u8s]; omega)]
  · obtain ⟨i, hi, rfl⟩ := List.mem_map.1 hy
    obtain ⟨n, h1, h2⟩ := each i (List.mem_range.1 hi)
    rw [h1]
    exact h2
theorem open_dgs {fuel : Nat} {cs : List Value} {x : DataW H × List MemPlace} (h : DataW.trod enc Tryd.prog W 0 (fun _ => true) true fuel 25 cs = some x) : ∃ a m c D, cs = [.slice a m c] ∧ Dgs W a m c D := by
  have hc32 : Tryd.prog.cellsOf 24 = 32 := by kernel_rfl
  rcases Deep.open_slice Tryd.underlying25 h with ⟨hcs, _⟩ | ⟨a, len, cap, m, n, D, Pl, hcs, _, hl, _, hm, _, hx⟩
  · exact ⟨none, 0, 0, [], hcs, ⟨none, 0, rfl, fun d hd => absurd hd List.not_mem_nil, fun e => absurd rfl e⟩, Nat.le_refl _, fun _ => rfl⟩
  · have hm' : m = cap := by simpa using hm
    rw [hc32] at hx
    have each : ∀ i, i < len → ∃ q : List Nat, (q.length = 32 ∧ ∀ y ∈ q, y < 256) ∧ ∀ j, j < 32 → W.cell? ((a.add (i * 32)).add j) = (u8s q)[j]? := fun i hi => by
      obtain ⟨cs', h1, h2⟩ := hx i (by omega)
      obtain ⟨_, hlen, hcell⟩ := World.cells?_some h1
      obtain ⟨l, rfl, hl1, hl2⟩ := open_arr32D h2 hlen
      exact ⟨l, ⟨hl1, hl2⟩, hcell⟩
    obtain ⟨q, hq⟩ := Deep.choose_lt each
    have hlen : ((List.range len).map q).length = len := by simp
    refine ⟨some a, len, cap, (List.range len).map q, hcs, ⟨some a, cap, by rw [hlen], fun d hd => ?_, fun hne => ?_⟩, hl, fun e => by cases e⟩
    · obtain ⟨i, hi, rfl⟩ := List.mem_map.1 hd
      exact (hq i (List.mem_range.1 hi)).1
    · have h0 : 0 < len := by
        rcases Nat.eq_zero_or_pos len with h | h
        · subst h; exact absurd rfl hne
        · exact h
      obtain ⟨b, o, spot⟩ := a
      obtain ⟨⟨h32, _⟩, hc0⟩ := hq 0 h0
      have hc := hc0 0 (by omega)
      rw [List.getElem?_eq_getElem (by simp [u8s, h32])] at hc
      have hspot : spot = none := by simpa [Addr.add] using World.cell?_spot hc
      subst hspot
      refine ⟨b, o, rfl, fun j hj u v hu => ?_⟩
      rw [hlen] at hj
      have e : ((List.range len).map q).getD j [] = q j := by
        rw [List.getD_eq_getElem?_getD, List.getElem?_map, List.getElem?_range hj]; rfl
      rw [e] at hu
      obtain ⟨⟨h32, _⟩, hcj⟩ := hq j hj
      have hu32 : u < 32 := by have := (List.getElem?_eq_some_iff.1 hu).1; simpa [u8s, h32] using this
      have h1 := hcj u hu32
      rw [Deep.add_add, add_noneD, hu, ← Nat.add_assoc] at h1
      exact h1
/-- a manifest that came in -/
def ManW (W : World) (v : Value) : Prop := ∃ (k n t s : Int) (od : List Nat) (a : Option Addr) (m c : Nat) (D : List (List Nat)), v = .agg (mcells k n t s od (.slice a m c)).toArray ∧ od.length = 32 ∧ (∀ y ∈ od, y < 256) ∧ Dgs W a m c D
set_option maxRecDepth 100000 in
theorem open_man {base : Nat} {v : Value} {d : DataW H} {p : List MemPlace} (hval : Value.okWide Tryd.prog W .any base 27 v) (h : DataW.Trod enc Tryd.prog W 0 (fun _ => true) true 27 v d p) : ManW W v := by
  obtain ⟨cs, rfl, hsz⟩ := okWide_struct Tryd.underlying27 hval
  rw [show Tryd.prog.cellsOf 27 = 37 from by kernel_rfl] at hsz
  obtain ⟨l⟩ := cs
  obtain ⟨fuel, hf⟩ := h
  obtain ⟨xs, n, rfl, _, _, hxl, hg⟩ := DataW.trod_struct Tryd.underlying27 hf
  have e3 : Tryd.prog.cellsOf 3 = 1 := by kernel_rfl
  have e30 : Tryd.prog.cellsOf 24 = 32 := by kernel_rfl
  have e60 : Tryd.prog.cellsOf 25 = 1 := by kernel_rfl
  match xs, hxl with
  | [y0, y1, y2, y3, y4, y5], _ =>
  have g0 := hg 0 _ rfl
  have g1 := hg 1 _ rfl
  have g2 := hg 2 _ rfl
  have g3 := hg 3 _ rfl
  have g4 := hg 4 _ rfl
  have g5 := hg 5 _ rfl
  simp only [Value.cells] at g0 g1 g2 g3 g4 g5
  obtain ⟨k, f0, _, w0⟩ := DataW.trod_int Tryd.underlying3 g0
  obtain ⟨n', f1, _, w1⟩ := DataW.trod_int Tryd.underlying3 g1
  obtain ⟨t, f2, _, w2⟩ := DataW.trod_int Tryd.underlying3 g2
  obtain ⟨s, f3, _, w3⟩ := DataW.trod_int Tryd.underlying3 g3
  have hl37 : l.length = 37 := by simpa using hsz
  obtain ⟨od, f4, ho1, ho2⟩ := open_arr32D g4 (by simp; omega)
  obtain ⟨a, m, c, D, f5, hD⟩ := open_dgs g5
  refine ⟨k, n', t, s, od, a, m, c, D, ?_, ho1, ho2, hD⟩
  congr 2
  have r0 : l[0]? = some (.int .i64 k) := chunkL f0
  have r1 : l[1]? = some (.int .i64 n') := chunkL f1
  have r2 : l[2]? = some (.int .i64 t) := chunkL f2
  have r3 : l[3]? = some (.int .i64 s) := chunkL f3
  have r5 : l[36]? = some (.slice a m c) := chunkL f5
  have r4 : ∀ i, i < 32 → l[4 + i]? = (u8s od)[i]? := fun i hi => by
    have h : (List.take 32 (List.drop 4 l))[i]? = (u8s od)[i]? := congrArg (·[i]?) f4
    rw [← h, List.getElem?_take_of_lt hi, List.getElem?_drop]
  have hml := mcells_length k n' t s od (.slice a m c) ho1
  apply List.ext_getElem?
  intro i
  by_cases hi : i < 37
  · rcases (show i = 0 ∨ i = 1 ∨ i = 2 ∨ i = 3 ∨ (∃ j, i = 4 + j ∧ j < 32) ∨ i = 36 from by
      rcases (show i < 4 ∨ i = 36 ∨ (4 ≤ i ∧ i < 36) from by omega) with h | h | h
      · omega
      · exact .inr (.inr (.inr (.inr (.inr h))))
      · exact .inr (.inr (.inr (.inr (.inl ⟨i - 4, by omega, by omega⟩))))) with rfl | rfl | rfl | rfl | ⟨j, rfl, hj⟩ | rfl
    · rw [r0]; rfl
    · rw [r1]; rfl
    · rw [r2]; rfl
    · rw [r3]; rfl
    · rw [r4 j hj]
      unfold mcells
      rw [List.append_assoc, List.getElem?_append_right (by simp), List.getElem?_append_left (by simp [u8s, ho1]; omega)]
      simp
    · rw [r5]
      unfold mcells
      rw [List.getElem?_append_right (by simp [u8s, ho1])]
      simp [u8s, ho1]
  · rw [List.getElem?_eq_none (by omega), List.getElem?_eq_none (by omega)]
end
end Go.Proofs.YtehjikogdaclgaaDoor

namespace Go.Proofs.YtehjikogdaclgaaDoor
open Go.ChangeShapes Go.WideShapes Go.ChangeAt Go.RowKit
set_option linter.unusedVariables false

section
variable {H : Type} {enc : TypeId × Value → H} {W : World}

set_option maxRecDepth 100000 in
theorem open_manC {fuel : Nat} {l : List Value} {x : DataW H × List MemPlace} (hf : DataW.trod enc Tryd.prog W 0 (fun _ => true) true fuel 27 l = some x) (hl37 : l.length = 37) :
    ∃ (k n t s : Int) (od : List Nat) (a : Option Addr) (m c : Nat) (D : List (List Nat)), l = mcells k n t s od (.slice a m c) ∧ od.length = 32 ∧ (∀ y ∈ od, y < 256) ∧ Dgs W a m c D := by
  obtain ⟨xs, n, rfl, _, _, hxl, hg⟩ := DataW.trod_struct Tryd.underlying27 hf
  match xs, hxl with
  | [y0, y1, y2, y3, y4, y5], _ =>
  have g0 := hg 0 _ rfl
  have g1 := hg 1 _ rfl
  have g2 := hg 2 _ rfl
  have g3 := hg 3 _ rfl
  have g4 := hg 4 _ rfl
  have g5 := hg 5 _ rfl
  obtain ⟨k, f0, _, w0⟩ := DataW.trod_int Tryd.underlying3 g0
  obtain ⟨n', f1, _, w1⟩ := DataW.trod_int Tryd.underlying3 g1
  obtain ⟨t, f2, _, w2⟩ := DataW.trod_int Tryd.underlying3 g2
  obtain ⟨s, f3, _, w3⟩ := DataW.trod_int Tryd.underlying3 g3
  have e30 : Tryd.prog.cellsOf 24 = 32 := by kernel_rfl
  obtain ⟨od, f4, ho1, ho2⟩ := open_arr32D g4 (by simp; omega)
  obtain ⟨a, m, c, D, f5, hD⟩ := open_dgs g5
  refine ⟨k, n', t, s, od, a, m, c, D, ?_, ho1, ho2, hD⟩
  have r0 : l[0]? = some (.int .i64 k) := chunkL f0
  have r1 : l[1]? = some (.int .i64 n') := chunkL f1
  have r2 : l[2]? = some (.int .i64 t) := chunkL f2
  have r3 : l[3]? = some (.int .i64 s) := chunkL f3
  have r5 : l[36]? = some (.slice a m c) := chunkL f5
  have r4 : ∀ i, i < 32 → l[4 + i]? = (u8s od)[i]? := fun i hi => by
    have h : (List.take 32 (List.drop 4 l))[i]? = (u8s od)[i]? := congrArg (·[i]?) f4
    rw [← h, List.getElem?_take_of_lt hi, List.getElem?_drop]
  have hml := mcells_length k n' t s od (.slice a m c) ho1
  apply List.ext_getElem?
  intro i
  by_cases hi : i < 37
  · rcases (show i = 0 ∨ i = 1 ∨ i = 2 ∨ i = 3 ∨ (∃ j, i = 4 + j ∧ j < 32) ∨ i = 36 from by
      rcases (show i < 4 ∨ i = 36 ∨ (4 ≤ i ∧ i < 36) from by omega) with h | h | h
      · omega
      · exact .inr (.inr (.inr (.inr (.inr h))))
      · exact .inr (.inr (.inr (.inr (.inl ⟨i - 4, by omega, by omega⟩))))) with rfl | rfl | rfl | rfl | ⟨j, rfl, hj⟩ | rfl
    · rw [r0]; rfl
    · rw [r1]; rfl
    · rw [r2]; rfl
    · rw [r3]; rfl
    · rw [r4 j hj]
      unfold mcells
      rw [List.append_assoc, List.getElem?_append_right (by simp), List.getElem?_append_left (by simp [u8s, ho1]; omega)]
      simp
    · rw [r5]
      unfold mcells
      rw [List.getElem?_append_right (by simp [u8s, ho1])]
      simp [u8s, ho1]
  · rw [List.getElem?_eq_none (by omega), List.getElem?_eq_none (by omega)]

/-- a case that came in -/
structure CaseD (W : World) (v : Value) (K N T I : Int) (da : Option Addr) (dl dc : Nat) (ld : List Nat) (mk mn mt ms : Int) (mo : List Nat) (ma : Option Addr) (mm mc : Nat) (mD : List (List Nat)) (pa : Option Addr) (pl pc : Nat) (ps : List (Int × Sl)) (D : Nat → List Nat) (ia : Option Addr) (il ic : Nat) (li : List Int) : Prop where
  eq : v = .agg (([.int .i64 K, .int .i64 N, .int .i64 T, .int .i64 I, .slice da dl dc] : List Value) ++ mcells mk mn mt ms mo (.slice ma mm mc) ++ ([.slice pa pl pc, .slice ia il ic] : List Value)).toArray
  wf : (Lit.int .i64 K).wf = true ∧ (Lit.int .i64 N).wf = true ∧ (Lit.int .i64 T).wf = true ∧ (Lit.int .i64 I).wf = true
  data : By W da dl dc ld
  mo32 : mo.length = 32
  molt : ∀ y ∈ mo, y < 256
  man : Dgs W ma mm mc mD
  pieces : Pcn W pa pl pc ps D
  by_ : Is W (.slice ia il ic) li ∧ il ≤ ic ∧ (ia = none → ic = 0)
def CaseWD (W : World) (v : Value) : Prop := ∃ K N T I da dl dc ld mk mn mt ms mo ma mm mc mD pa pl pc ps D ia il ic li, CaseD W v K N T I da dl dc ld mk mn mt ms mo ma mm mc mD pa pl pc ps D ia il ic li
set_option maxRecDepth 100000 in
theorem open_caseD {base : Nat} {v : Value} {d : DataW H} {p : List MemPlace} (hval : Value.okWide Tryd.prog W .any base 31 v) (h : DataW.Trod enc Tryd.prog W 0 (fun _ => true) true 31 v d p) : CaseWD W v := by
  obtain ⟨cs, rfl, hsz⟩ := okWide_struct Tryd.underlying31 hval
  rw [show Tryd.prog.cellsOf 31 = 44 from by kernel_rfl] at hsz
  obtain ⟨l⟩ := cs
  match l, hsz with
  | c0 :: c1 :: c2 :: c3 :: c4 :: c5 :: c6 :: c7 :: c8 :: c9 :: c10 :: c11 :: c12 :: c13 :: c14 :: c15 :: c16 :: c17 :: c18 :: c19 :: c20 :: c21 :: c22 :: c23 :: c24 :: c25 :: c26 :: c27 :: c28 :: c29 :: c30 :: c31 :: c32 :: c33 :: c34 :: c35 :: c36 :: c37 :: c38 :: c39 :: c40 :: c41 :: c42 :: c43 :: [], _ =>
  obtain ⟨fuel, hf⟩ := h
  obtain ⟨xs, n, rfl, _, _, hxl, hg⟩ := DataW.trod_struct Tryd.underlying31 hf
  have e3 : Tryd.prog.cellsOf 3 = 1 := by kernel_rfl
  have e5 : Tryd.prog.cellsOf 22 = 1 := by kernel_rfl
  have e37 : Tryd.prog.cellsOf 27 = 37 := by kernel_rfl
  have e28 : Tryd.prog.cellsOf 28 = 1 := by kernel_rfl
  have e38 : Tryd.prog.cellsOf 29 = 1 := by kernel_rfl
  match xs, hxl with
  | [y0, y1, y2, y3, y4, y5, y6, y7], _ =>
  have g0 := hg 0 _ rfl
  have g1 := hg 1 _ rfl
  have g2 := hg 2 _ rfl
  have g3 := hg 3 _ rfl
  have g4 := hg 4 _ rfl
  have g5 := hg 5 _ rfl
  have g6 := hg 6 _ rfl
  have g7 := hg 7 _ rfl
  simp [Value.cells, e3, e5, e28, e37, e38] at g0 g1 g2 g3 g4 g5 g6 g7
  obtain ⟨K, f0, _, w0⟩ := DataW.trod_int Tryd.underlying3 g0
  obtain ⟨N, f1, _, w1⟩ := DataW.trod_int Tryd.underlying3 g1
  obtain ⟨T, f2, _, w2⟩ := DataW.trod_int Tryd.underlying3 g2
  obtain ⟨I, f3, _, w3⟩ := DataW.trod_int Tryd.underlying3 g3
  obtain ⟨da, dl, dc, ld, f4, hd⟩ := open_by g4
  obtain ⟨mk, mn, mt, ms, mo, ma, mm, mc, mD, f5, hmo, hml, hmD⟩ := open_manC g5 rfl
  obtain ⟨pa, pl, pc, ps, D, f6, hp⟩ := open_pcn g6
  obtain ⟨ia, il, ic, li, f7, hi⟩ := open_is g7
  simp only [List.cons.injEq, and_true] at f0 f1 f2 f3 f4 f6 f7
  refine ⟨K, N, T, I, da, dl, dc, ld, mk, mn, mt, ms, mo, ma, mm, mc, mD, pa, pl, pc, ps, D, ia, il, ic, li, ?_, ⟨w0, w1, w2, w3⟩, hd, hmo, hml, hmD, hp, hi⟩
  show Value.agg (([c0, c1, c2, c3, c4] : List Value) ++ (c5 :: c6 :: c7 :: c8 :: c9 :: c10 :: c11 :: c12 :: c13 :: c14 :: c15 :: c16 :: c17 :: c18 :: c19 :: c20 :: c21 :: c22 :: c23 :: c24 :: c25 :: c26 :: c27 :: c28 :: c29 :: c30 :: c31 :: c32 :: c33 :: c34 :: c35 :: c36 :: c37 :: c38 :: c39 :: c40 :: c41 :: []) ++ [c42, c43]).toArray = _
  rw [f5, f0, f1, f2, f3, f4, f6, f7]
end
end Go.Proofs.YtehjikogdaclgaaDoor

namespace Go.Proofs.YtehjikogdaclgaaDoor
open Go Go.RowKit
set_option linter.unusedVariables false

def plenL (ps : List (Int × Sl)) (j : Nat) : Nat := (ps.getD j (0, none, 0, 0)).2.2.1
theorem plenL_at (ps : List (Int × Sl)) (i : Nat) (h : i < ps.length) : (ps[i]'h).2.2.1 = plenL ps i := by
  unfold plenL
  rw [List.getD_eq_getElem?_getD, List.getElem?_eq_getElem h]
  rfl
/-- the cells of a case -/
def cc (K N T I : Int) (dv : Value) (mk mn mt ms : Int) (mo : List Nat) (mv pv iv : Value) : List Value := ([.int .i64 K, .int .i64 N, .int .i64 T, .int .i64 I, dv] : List Value) ++ mcells mk mn mt ms mo mv ++ ([pv, iv] : List Value)
theorem cc_length (K N T I : Int) (dv : Value) (mk mn mt ms : Int) (mo : List Nat) (mv pv iv : Value) (h : mo.length = 32) : (cc K N T I dv mk mn mt ms mo mv pv iv).length = 44 := by
  unfold cc
  rw [List.length_append, List.length_append, mcells_length _ _ _ _ _ _ h]
  rfl
def CaseAt (w : World) (b : Nat) (K N T I : Int) (dv : Value) (mk mn mt ms : Int) (mo : List Nat) (mv pv iv : Value) : Prop := w.heap[b]? = some (.cells (cc K N T I dv mk mn mt ms mo mv pv iv).toArray 31 (0, 0))
theorem CaseAt.c {w : World} {b : Nat} {K N T I : Int} {dv : Value} {mk mn mt ms : Int} {mo : List Nat} {mv pv iv : Value} (h : CaseAt w b K N T I dv mk mn mt ms mo mv pv iv) :
    w.cell? ⟨b, 0, none⟩ = some (.int .i64 K) ∧ w.cell? ⟨b, 1, none⟩ = some (.int .i64 N) ∧ w.cell? ⟨b, 2, none⟩ = some (.int .i64 T) ∧ w.cell? ⟨b, 3, none⟩ = some (.int .i64 I) ∧ w.cell? ⟨b, 4, none⟩ = some dv :=
  ⟨by rw [cell_of_heap h]; rfl, by rw [cell_of_heap h]; rfl, by rw [cell_of_heap h]; rfl, by rw [cell_of_heap h]; rfl, by rw [cell_of_heap h]; rfl⟩
theorem cc_hi (K N T I : Int) (dv : Value) (mk mn mt ms : Int) (mo : List Nat) (mv pv iv : Value) (h : mo.length = 32) : (cc K N T I dv mk mn mt ms mo mv pv iv)[41]? = some mv ∧ (cc K N T I dv mk mn mt ms mo mv pv iv)[42]? = some pv ∧ (cc K N T I dv mk mn mt ms mo mv pv iv)[43]? = some iv := by
  have hm := mcells_length mk mn mt ms mo mv h
  have h5 : (([.int .i64 K, .int .i64 N, .int .i64 T, .int .i64 I, dv] : List Value) ++ mcells mk mn mt ms mo mv).length = 42 := by rw [List.length_append, hm]; rfl
  unfold cc
  refine ⟨?_, ?_, ?_⟩
  · rw [List.getElem?_append_left (by rw [h5]; decide), List.getElem?_append_right (by simp)]
    show (mcells mk mn mt ms mo mv)[36]? = _
    unfold mcells
    rw [List.getElem?_append_right (by simp [u8s, h])]
    simp [u8s, h]
  · rw [List.getElem?_append_right (by rw [h5]; decide), h5]; rfl
  · rw [List.getElem?_append_right (by rw [h5]; decide), h5]; rfl
theorem CaseAt.hi {w : World} {b : Nat} {K N T I : Int} {dv : Value} {mk mn mt ms : Int} {mo : List Nat} {mv pv iv : Value} (h : CaseAt w b K N T I dv mk mn mt ms mo mv pv iv) (ho : mo.length = 32) :
    w.cell? ⟨b, 41, none⟩ = some mv ∧ w.cell? ⟨b, 42, none⟩ = some pv ∧ w.cell? ⟨b, 43, none⟩ = some iv := by
  obtain ⟨h1, h2, h3⟩ := cc_hi K N T I dv mk mn mt ms mo mv pv iv ho
  exact ⟨by rw [cell_of_heap h, List.getElem?_toArray]; exact h1, by rw [cell_of_heap h, List.getElem?_toArray]; exact h2, by rw [cell_of_heap h, List.getElem?_toArray]; exact h3⟩

def cz : Array Value := (cc 0 0 0 0 (.slice none 0 0) 0 0 0 0 (List.replicate 32 0) (.slice none 0 0) (.slice none 0 0) (.slice none 0 0)).toArray
/-- what large answers -/
def LrgTo (pl mm dl il : Nat) (ps : List (Int × Sl)) (w : World) (e : Ending) (w' : World) : Prop :=
  Below w.heap.size w w' ∧ ∃ r, e = .returned (.bool r) ∧ (r = false → pl ≤ 60 ∧ mm ≤ 400 ∧ dl ≤ 10000 ∧ il ≤ 60 ∧ ∀ j, j < ps.length → plenL ps j ≤ 9000)

set_option maxRecDepth 100000 in
set_option maxHeartbeats 4000000 in
theorem large_any (K N T I : Int) (da : Option Addr) (dl dc : Nat) (mk mn mt ms : Int) (mo : List Nat) (ma : Option Addr) (mm mc : Nat) (pa : Option Addr) (pl pc : Nat) (ps : List (Int × Sl)) (ia : Option Addr) (il ic : Nat) (w : World) (ho : mo.length = 32) (hp : Ps w (.slice pa pl pc) ps) :
    Calls Tryd.prog 8 #[.agg (cc K N T I (.slice da dl dc) mk mn mt ms mo (.slice ma mm mc) (.slice pa pl pc) (.slice ia il ic)).toArray] w (LrgTo pl mm dl il ps w) := by
  obtain ⟨w1, hw1⟩ : ∃ y, y = w.alloc (.cells (cc K N T I (.slice da dl dc) mk mn mt ms mo (.slice ma mm mc) (.slice pa pl pc) (.slice ia il ic)).toArray 31) := ⟨_, rfl⟩
  have HB1 := hid (show Below w.heap.size w w1 from by rw [hw1]; exact (Below.refl _ _).alloc (Nat.le_refl _) _)
  have hC : CaseAt w1 w.heap.size K N T I (.slice da dl dc) mk mn mt ms mo (.slice ma mm mc) (.slice pa pl pc) (.slice ia il ic) := by rw [hw1]; exact heap_new _ _
  obtain ⟨-, -, -, -, c4⟩ := hC.c
  obtain ⟨c41, c42, c43⟩ := hC.hi ho
  have HP := hid (hp.below HB1.out)
  have HN := hid (show pl = ps.length from by obtain ⟨_, _, h1, _⟩ := hp; simp only [Value.slice.injEq] at h1; exact h1.2.1)
  clear hC hp ho
  by_cases g1 : 60 < pl
  · as_aux_lemma =>
    have i1 : 60 < (pl : Int) := by omega
    go_enter Tryd.func8, Tryd.ntmps8
    go_upto_region 1 with fail
    change Code.wp _ _ _ _ (w.alloc (.cells (cc K N T I (.slice da dl dc) mk mn mt ms mo (.slice ma mm mc) (.slice pa pl pc) (.slice ia il ic)).toArray 31))
    rw [← hw1]
    clear hw1
    go_wp2
    go_ret
    exact ⟨HB1.out, true, rfl, fun h => by cases h⟩
  have i1 : ¬ 60 < (pl : Int) := by omega
  by_cases g2 : 400 < mm
  · as_aux_lemma =>
    have i2 : 400 < (mm : Int) := by omega
    go_enter Tryd.func8, Tryd.ntmps8
    go_upto_region 1 with fail
    change Code.wp _ _ _ _ (w.alloc (.cells (cc K N T I (.slice da dl dc) mk mn mt ms mo (.slice ma mm mc) (.slice pa pl pc) (.slice ia il ic)).toArray 31))
    rw [← hw1]
    clear hw1
    go_wp2
    go_ret
    exact ⟨HB1.out, true, rfl, fun h => by cases h⟩
  have i2 : ¬ 400 < (mm : Int) := by omega
  by_cases g3 : 10000 < dl
  · as_aux_lemma =>
    have i3 : 10000 < (dl : Int) := by omega
    go_enter Tryd.func8, Tryd.ntmps8
    go_upto_region 1 with fail
    change Code.wp _ _ _ _ (w.alloc (.cells (cc K N T I (.slice da dl dc) mk mn mt ms mo (.slice ma mm mc) (.slice pa pl pc) (.slice ia il ic)).toArray 31))
    rw [← hw1]
    clear hw1
    go_wp2
    go_ret
    exact ⟨HB1.out, true, rfl, fun h => by cases h⟩
  have i3 : ¬ 10000 < (dl : Int) := by omega
  by_cases g4 : 60 < il
  · as_aux_lemma =>
    have i4 : 60 < (il : Int) := by omega
    go_enter Tryd.func8, Tryd.ntmps8
    go_upto_region 1 with fail
    change Code.wp _ _ _ _ (w.alloc (.cells (cc K N T I (.slice da dl dc) mk mn mt ms mo (.slice ma mm mc) (.slice pa pl pc) (.slice ia il ic)).toArray 31))
    rw [← hw1]
    clear hw1
    go_wp2
    go_ret
    exact ⟨HB1.out, true, rfl, fun h => by cases h⟩
  have i4 : ¬ 60 < (il : Int) := by omega
  go_enter Tryd.func8, Tryd.ntmps8
  go_upto_region 1 with fail
  change Code.wp _ _ _ _ (w.alloc (.cells (cc K N T I (.slice da dl dc) mk mn mt ms mo (.slice ma mm mc) (.slice pa pl pc) (.slice ia il ic)).toArray 31))
  rw [← hw1]
  clear hw1
  go_wp2
  go_loop [3] (fun iv => ∃ i : Nat, i ≤ pl ∧ iv = .int .i64 i ∧ Hid (∀ j, j < i → plenL ps j ≤ 9000)) (fun iv => pl - (intOf iv).toNat)
  case atStart => exact ⟨0, by omega, rfl, hid fun j h => absurd h (Nat.not_lt_zero _)⟩
  case round =>
    obtain ⟨i, hi, rfl, HLE⟩ := hrel
    by_cases hlt : i < pl
    · have j1 : (i : Int) < (pl : Int) := by omega
      have hi2 : i < ps.length := by rw [← HN.out]; exact hlt
      obtain ⟨b, o, rfl⟩ : ∃ b o, pa = some ⟨b, o, none⟩ := by
        obtain ⟨a', c', h1, h3⟩ := HP.out
        obtain ⟨b, o, ha, _⟩ := h3 (by intro e; rw [e] at hi2; exact absurd hi2 (Nat.not_lt_zero _))
        simp at h1
        exact ⟨b, o, h1.1.trans ha⟩
      obtain ⟨q0, q1⟩ := HP.out.cells i hi2
      rw [plenL_at] at q1
      obtain ⟨dn, hdn⟩ : ∃ m, m = plenL ps i := ⟨_, rfl⟩
      rw [← hdn] at q1
      generalize (ps[i]'_).2.1 = xa at *
      generalize (ps[i]'_).2.2.2 = xc at *
      have HDN := hid hdn
      clear hdn q0
      by_cases g9 : 9000 < dn
      · have j9 : 9000 < (dn : Int) := by omega
        go_wp2
        go_ret
        exact ⟨HB1.out, true, rfl, fun h => by cases h⟩
      · have j9 : ¬ 9000 < (dn : Int) := by omega
        have HLE2 := hid (show ∀ j, j < i + 1 → plenL ps j ≤ 9000 from fun j hj => by
          by_cases e : j = i
          · rw [e, ← HDN.out]; omega
          · exact HLE.out j (by omega))
        go_wp2
        exact ⟨⟨i + 1, by omega, by go_num, HLE2⟩, by simp [intOf]; omega⟩
    · obtain rfl : i = pl := by omega
      go_wp2
      go_ret
      exact ⟨HB1.out, false, rfl, fun _ => ⟨by omega, by omega, by omega, by omega, fun j hj => HLE.out j (by rw [HN.out]; exact hj)⟩⟩
end Go.Proofs.YtehjikogdaclgaaDoor

namespace Go.Proofs.YtehjikogdaclgaaDoor
open Go Go.RowKit
set_option linter.unusedVariables false

/-- one bit -/
def crcBit (r : Nat) : Nat := if r % 2 = 1 then (r / 2) ^^^ 2197175160 else r / 2
def crcBits (r : Nat) : Nat → Nat | 0 => r | j + 1 => crcBit (crcBits r j)
/-- one byte -/
def crcByte (r b : Nat) : Nat := crcBits (r ^^^ b) 8
def crcTo (l : List Nat) : Nat → Nat | 0 => 4294967295 | i + 1 => crcByte (crcTo l i) (l.getD i 0)
def crc (l : List Nat) : Nat := 4294967295 ^^^ crcTo l l.length
theorem crcBit_lt {r : Nat} (h : r < 4294967296) : crcBit r < 4294967296 := by
  unfold crcBit
  split
  · exact xor_lt32 (by omega) (by omega)
  · omega
theorem crcBits_lt {r : Nat} (h : r < 4294967296) : ∀ j, crcBits r j < 4294967296 | 0 => h | j + 1 => crcBit_lt (crcBits_lt h j)
theorem crcTo_lt {l : List Nat} (h : ∀ i, l.getD i 0 < 256) : ∀ i, crcTo l i < 4294967296
  | 0 => (by decide : (4294967295 : Nat) < 4294967296)
  | i + 1 => crcBits_lt (xor_lt32 (crcTo_lt h i) (by have := h i; omega)) 8
theorem crc_step (q : Nat) (hq : q < 4294967296) : bits .xor .u32 ((q : Int) / 2) (bits .and .u32 2197175160 (-bits .and .u32 (q : Int) 1 % 4294967296)) = ((crcBit q : Nat) : Int) := by
  have h1 : bits .and .u32 (q : Int) 1 = ((q % 2 : Nat) : Int) := by
    have h := u32_and_nat q 1 hq (by omega)
    rw [Nat.and_one_is_mod] at h
    exact h
  have h2 : (q : Int) / 2 = ((q / 2 : Nat) : Int) := by omega
  rw [h1, h2]
  unfold crcBit
  by_cases e : q % 2 = 1
  · rw [if_pos e, e]
    have h3 : -((1 : Nat) : Int) % 4294967296 = ((4294967295 : Nat) : Int) := by decide
    have h4 : bits .and .u32 2197175160 ((4294967295 : Nat) : Int) = ((2197175160 : Nat) : Int) := u32_and_nat 2197175160 4294967295 (by omega) (by omega)
    rw [h3, h4]
    exact u32_xor_nat (q / 2) 2197175160 (by omega) (by omega)
  · rw [if_neg e, show q % 2 = 0 from by omega]
    have h3 : -((0 : Nat) : Int) % 4294967296 = ((0 : Nat) : Int) := by decide
    have h4 : bits .and .u32 2197175160 ((0 : Nat) : Int) = ((0 : Nat) : Int) := u32_and_nat 2197175160 0 (by omega) (by omega)
    rw [h3, h4]
    have h5 := u32_xor_nat (q / 2) 0 (by omega) (by omega)
    rwa [Nat.xor_zero] at h5

set_option maxRecDepth 100000 in
set_option maxHeartbeats 2000000 in
theorem CRC32C_any (a : Option Addr) (n c : Nat) (l : List Nat) (w : World) (hl : Bs w (.slice a n c) l) (hn : n ≤ 900000000) :
    Calls Tryd.prog 26 #[.slice a n c] w fun e w' => e = .returned (.int .u32 ((crc l : Nat) : Int)) ∧ w = w' := by
  have HL := hid hl
  have HN := hid hl.len
  have HLT := hid hl.lt
  clear hl
  go_enter Tryd.func26, Tryd.ntmps26
  go_wp2
  go_loop [3, 9] (fun rv iv => ∃ i : Nat, i ≤ n ∧ iv = .int .i64 i ∧ rv = .int .u32 ((crcTo l i : Nat) : Int)) (fun _ iv => n - (intOf iv).toNat)
  case atStart => exact ⟨0, by omega, rfl, rfl⟩
  case round =>
    obtain ⟨i, hi, rfl, rfl⟩ := hrel
    by_cases hin : i < n
    · have hI : (i : Int) < (n : Int) := by omega
      obtain ⟨b, o, rfl⟩ : ∃ b o, a = some ⟨b, o, none⟩ := by
        rcases HL.out.addr with ⟨h1, _⟩ | ⟨h1, b, o, c', hv⟩
        · have := HN.out; rw [h1] at this; simp at this; omega
        · simp only [Value.slice.injEq] at hv
          exact ⟨b, o, hv.1⟩
      have c1 := HL.out.cell i (by rw [← HN.out]; exact hin)
      have hrl := crcTo_lt HLT.out i
      have hbl := HLT.out i
      have hst := hid (fun (_ : Unit) => (show crcTo l (i + 1) = crcBits (crcTo l i ^^^ l.getD i 0) 8 from rfl))
      generalize crcTo l i = r at *
      generalize l.getD i 0 = y at *
      have hx := u32_xor_nat r y hrl (by omega)
      have hxl : r ^^^ y < 4294967296 := xor_lt32 hrl (by omega)
      have hcv : IntKind.u32.wrap (y : Int) = (y : Int) := by rw [IntKind.wrap_u32']; omega
      generalize r ^^^ y = x at *
      go_wp2
      go_loop [3, 17] (fun rv jv => ∃ j : Nat, j ≤ 8 ∧ jv = .int .i64 j ∧ rv = .int .u32 ((crcBits x j : Nat) : Int)) (fun _ jv => 8 - (intOf jv).toNat)
      case atStart => exact ⟨0, by omega, rfl, rfl⟩
      case round =>
        obtain ⟨j, hj, rfl, rfl⟩ := hrel
        by_cases hj8 : j < 8
        · have hJ : (j : Int) < 8 := by omega
          have hql := crcBits_lt hxl j
          have hst2 := hid (fun (_ : Unit) => (show crcBits x (j + 1) = crcBit (crcBits x j) from rfl))
          generalize crcBits x j = q at *
          go_wp2
          exact ⟨⟨j + 1, by omega, by rw [Int.natCast_add]; rfl, by rw [hst2.out (), crc_step q hql]⟩, by simp only [intOf]; omega⟩
        · obtain rfl : j = 8 := by omega
          go_wp2
          exact ⟨⟨i + 1, by omega, by rw [Int.natCast_add]; rfl, by rw [hst.out ()]⟩, by simp only [intOf]; omega⟩
    · obtain rfl : i = n := by omega
      have hcl := crcTo_lt HLT.out i
      have hx : bits .xor .u32 IntKind.u32.max ((crcTo l i : Nat) : Int) = ((4294967295 ^^^ crcTo l i : Nat) : Int) := u32_xor_nat 4294967295 (crcTo l i) (by omega) hcl
      have HC := hid (show crc l = 4294967295 ^^^ crcTo l i from by unfold crc; rw [← HN.out])
      go_wp2
      go_ret
      exact ⟨by rw [HC.out]; rfl, rfl⟩
end Go.Proofs.YtehjikogdaclgaaDoor

namespace Go.Proofs.YtehjikogdaclgaaDoor
open Go Go.RowKit
set_option linter.unusedVariables false

def hexD : List Nat := [48, 49, 50, 51, 52, 53, 54, 55, 56, 57, 97, 98, 99, 100, 101, 102]
def hexL (d : List Nat) : Nat → List Nat | 0 => [] | i + 1 => hexL d i ++ [hexD.getD (d.getD i 0 / 16) 0, hexD.getD (d.getD i 0 % 16) 0]
theorem hexL_length (d : List Nat) : ∀ i, (hexL d i).length = 2 * i | 0 => rfl | i + 1 => by simp [hexL, hexL_length d i]; omega
theorem hexD_lt (k : Nat) : hexD.getD k 0 < 256 := by
  rw [List.getD_eq_getElem?_getD]
  by_cases h : k < hexD.length
  · rw [List.getElem?_eq_getElem h]
    have : ∀ x ∈ hexD, x < 256 := by decide
    exact this _ (List.getElem_mem h)
  · rw [List.getElem?_eq_none (by omega)]; decide
theorem hexL_lt (d : List Nat) : ∀ i, ∀ x ∈ hexL d i, x < 256
  | 0, x, h => absurd h List.not_mem_nil
  | i + 1, x, h => by
    rcases List.mem_append.1 h with h | h
    · exact hexL_lt d i x h
    · simp only [List.mem_cons, List.not_mem_nil, or_false] at h
      rcases h with rfl | rfl <;> exact hexD_lt _

theorem hex_at (k : Nat) (hk : k < 16) (w : World) : (Instr.index 9 (.string ⟨#[48, 49, 50, 51, 52, 53, 54, 55, 56, 57, 97, 98, 99, 100, 101, 102]⟩) (.int .u8 (k : Int))).run Tryd.prog w = .ok (.int .u8 ((hexD.getD k 0 : Nat) : Int)) w := by
  have hsz : (⟨#[48, 49, 50, 51, 52, 53, 54, 55, 56, 57, 97, 98, 99, 100, 101, 102]⟩ : ByteArray).size = 16 := rfl
  rw [run_index_string w 9 _ .u8 (k : Int) Tryd.underlying9, dif_pos ⟨by omega, by rw [hsz]; omega⟩]
  have h16 : ∀ q : Fin 16, ((⟨#[48, 49, 50, 51, 52, 53, 54, 55, 56, 57, 97, 98, 99, 100, 101, 102]⟩ : ByteArray)[q.val]'(q.isLt)).toNat = hexD.getD q.val 0 := by decide
  exact congrArg (fun z : Nat => Result.ok (Value.int .u8 (z : Int)) w) (h16 ⟨k, hk⟩)

set_option maxRecDepth 100000 in
set_option maxHeartbeats 2000000 in
theorem Hex_any (d : List Nat) (hd : d.length = 32) (hdl : ∀ i, d.getD i 0 < 256) (w : World) :
    Calls Tryd.prog 25 #[.agg (u8s d).toArray] w fun e w' => e = .returned (.string (bstr (hexL d 32))) ∧ Below w.heap.size w w' := by
  have HD := hid hd
  have HDL := hid hdl
  obtain ⟨w1, hw1⟩ : ∃ w1, w1 = w.alloc (.cells (u8s d).toArray 24) := ⟨_, rfl⟩
  have hs1 : w1.heap.size = w.heap.size + 1 := by rw [hw1]; simp
  have hb1 : Below w.heap.size w w1 := by rw [hw1]; exact (Below.refl _ _).alloc (Nat.le_refl _) _
  have HO1 := hid (show w1.heap[w.heap.size]? = some (.cells (u8s d).toArray 24 (0, 0)) from by rw [hw1]; exact heap_new _ _)
  have hmk : (Instr.makeSlice 22 (.int .i64 0) (.int .i64 64)).run Tryd.prog w1 = .ok (.slice (some ⟨w1.heap.size, 0, none⟩) 0 64) (w1.alloc (zrow 64)) := mk_u8cH 0 64 (by omega) (by omega) w1
  have HB1 := hid hb1
  clear hd hdl
  go_enter Tryd.func25, Tryd.ntmps25
  go_wp2
  change Oper.upon _ _ _ _ _ ((Sem.run _ (Instr.makeSlice _ _ _) (w.alloc (.cells (u8s d).toArray 24))).andThen _)
  rw [← hw1, hmk]
  clear hw1 hmk
  have HIF := hid (show (Tryd.prog.info? 24).map (·.size) = some (u8s d).length from by rw [show (u8s d).length = 32 from by simp [u8s, HD.out]]; kernel_rfl)
  have HRA := hid (show (w1.alloc (zrow 64)).rangeAt w.heap.size 0 (u8s d) from fun j v hj => by
    rw [Nat.zero_add, cell_of_heap (heap_alloc HO1.out _), List.getElem?_toArray]
    exact hj)
  have HOW := hid (show (w1.alloc (zrow 64)).ownsRow w.heap.size 5 1 (.slice (some ⟨w.heap.size + 1, 0, none⟩) 0 64) 0 (u8s (hexL d 0)) from by rw [← hs1]; exact ⟨rfl, .inr ⟨w1.heap.size, 64, _, rfl, HB1.out.size, heap_new _ _, Nat.zero_le _, by decide, by simp [u8s], rfl⟩⟩)
  have HB2 := hid (HB1.out.alloc HB1.out.size (zrow 64))
  generalize hw2 : w1.alloc (zrow 64) = w2 at *
  clear hw2 hb1
  go_wp2_with (refine wpList_load_mid (by rfl) 24 (.tmp 1) (by rfl) w.heap.size 0 (by rfl) (u8s d) _ HRA.out Tryd.underlying24 rfl HIF.out ?_)
  clear HRA HIF HO1
  go_loopw [3, 8] (fun v iv wr => ∃ i : Nat, i ≤ 32 ∧ iv = .int .i64 i ∧ Hid (wr.ownsRow w.heap.size 5 1 v (2 * i) (u8s (hexL d i))) ∧ Hid (Below w.heap.size w wr)) (fun _ iv _ => 32 - (intOf iv).toNat)
  case atStart => exact ⟨0, by omega, rfl, HOW, HB2⟩
  case round =>
    clear HOW HB2
    obtain ⟨i, hi, rfl, HOW, HB⟩ := hrel
    by_cases hlt : i < 32
    · have hI : (i : Int) < 32 := by omega
      have hyl := HDL.out i
      have hidx : ∀ w, (Instr.index 24 (.agg (u8s d).toArray) (.int .i64 (i : Int))).run Tryd.prog w = .ok (.int .u8 ((d.getD i 0 : Nat) : Int)) w := by
        intro w
        have hT : Tryd.prog.underlying 24 = _ := Tryd.underlying24
        have hix : (u8s d)[i]? = some (.int .u8 ((d.getD i 0 : Nat) : Int)) := by
          have h9 : i < d.length := by rw [HD.out]; exact hlt
          simp [u8s, h9]
        simp [Instr.index, run_underlying Tryd.underlying24, hlt, hix, go_sem]
      have HST := hid (fun (_ : Unit) => (show hexL d (i + 1) = hexL d i ++ [hexD.getD (d.getD i 0 / 16) 0, hexD.getD (d.getD i 0 % 16) 0] from rfl))
      generalize d.getD i 0 = y at *
      have k1 := fun w => hex_at (y / 16) (by omega) w
      have k2 := fun w => hex_at (y % 16) (by omega) w
      have k3 : bits .and .u8 (y : Int) 15 = ((y % 16 : Nat) : Int) := by
        have h := u8_and_nat y 15 hyl (by omega)
        rw [Nat.and_two_pow_sub_one_eq_mod y 4] at h
        exact h
      have l1 := hexD_lt (y / 16)
      have l2 := hexD_lt (y % 16)
      have k4 : (y : Int) / 16 = ((y / 16 : Nat) : Int) := by omega
      generalize y / 16 = p at *
      generalize y % 16 = q at *
      generalize hexD.getD p 0 = x1 at *
      generalize hexD.getD q 0 = x2 at *
      have hx12 : ∀ n ∈ [x1, x2], n < 256 := fun n hn => by
        simp only [List.mem_cons, List.not_mem_nil, or_false] at hn
        rcases hn with rfl | rfl
        · exact l1
        · exact l2
      have HX := hid hx12
      have hsz := HB.out.size
      clear hx12 hyl
      go_wp2
      go_region_held3 (fun _ => True)
        (exact trivial)
        (first
          | (refine step_own_bytesH (by rfl) (.tmp 11) (.tmp 18) (by rfl) w.heap.size (2 * i) u3 (hexL d i) (by rfl) (by exact HOW.out.alloc _) (some ⟨wr.heap.size, 0, none⟩) 2 2 [x1, x2] (by rfl) (Own.bs (l := [x1, x2]) (heap_new _ _) HX.out 2) (fun h => by cases h) (by omega) (by simp; omega) ?_
             intro v5 w5 hown5 hg5
             have hb5 : Below w.heap.size w w5 := (bel_drewN (HB.out.alloc HB.out.size _) 1).grown hg5 (by simp; omega) (fun g hg => (HOW.out.lt g hg).1)
             rw [← HST.out (), show 2 * i + 2 = 2 * (i + 1) from by omega] at hown5
             have HO5 := hid hown5
             have HB5 := hid hb5))
      all_goals
        go_wp2
        exact ⟨⟨i + 1, by omega, by go_num, HO5, HB5⟩, by simp [intOf]; omega⟩
    · obtain rfl : i = 32 := by omega
      obtain ⟨av, cv, rfl, -, -, hbs, -⟩ := bs_of_owns HOW.out (hexL_lt d 32)
      have hcv := conv_bs hbs
      obtain ⟨X, hX⟩ : ∃ X, X = hexL d 32 := ⟨_, rfl⟩
      rw [← hX] at hcv
      have HXE := hid (fun (_ : Unit) => hX)
      clear hbs HOW hX
      go_wp2
      go_ret
      refine ⟨?_, HB.out⟩
      rw [← HXE.out ()]
      rfl
end Go.Proofs.YtehjikogdaclgaaDoor

namespace Go.Proofs.YtehjikogdaclgaaDoor
open Go Go.RowKit

theorem crc_nine : crc [49, 50, 51, 52, 53, 54, 55, 56, 57] = 3808858755 := by kernel_rfl
end Go.Proofs.YtehjikogdaclgaaDoor

namespace Go.Proofs.YtehjikogdaclgaaDoor
open Go.RowKit

theorem zero98 : Tryd.zeroCells75 = fcells 0 0 (tabTo 0) := by kernel_rfl
/-- NewField -/
theorem newField_any (w : World) :
    Calls Tryd.prog 12 #[] w fun e w' => e = .returned (.pointer (some ⟨w.heap.size, 0, none⟩)) ∧ Fresh w' w.heap.size ∧ Below w.heap.size w w' := by
  go_enter Tryd.func12, Tryd.ntmps12
  go_wp2
  go_ret
  exact ⟨rfl, by rw [zero98]; exact heap_new _ _, (Below.refl _ _).alloc (Nat.le_refl _) _⟩
end Go.Proofs.YtehjikogdaclgaaDoor

namespace Go.Proofs.YtehjikogdaclgaaDoor
open Go Go.RowKit
set_option linter.unusedVariables false

theorem off_of {a : Option Addr} {n c rb : Nat} (h : Off rb (.slice a n c)) : ∀ ad, a = some ad → ad.block ≠ rb := fun ad e => by
  subst e
  exact h
theorem off_to {a : Option Addr} {n c rb : Nat} (h : ∀ ad, a = some ad → ad.block ≠ rb) : Off rb (.slice a n c) := by
  cases a with
  | none => trivial
  | some ad => exact h ad rfl
theorem add_block (ad : Addr) (k : Nat) : (ad.add k).block = ad.block := by
  unfold Addr.add
  split <;> rfl
/-- what follows the first k bytes, of no bytes too -/
theorem bs_from0 {w : World} {a : Option Addr} {n c : Nat} {l : List Nat} (h : Bs w (.slice a n c) l) (hc : n ≤ c) (hnil : a = none → c = 0) (k : Nat) (hk : k ≤ n) :
    ∃ a' c', (∀ w', (Instr.sliceAt 22 (.slice a n c) (some (.int .i64 (k : Int))) none none).run Tryd.prog w' = .ok (.slice a' (n - k) c') w') ∧ Bs w (.slice a' (n - k) c') (l.drop k) ∧ n - k ≤ c' ∧ (a' = none → c' = 0) ∧ (∀ fb, Off fb (.slice a n c) → Off fb (.slice a' (n - k) c')) := by
  by_cases h1 : 1 ≤ n
  · exact bs_from h h1 hc k hk
  · obtain rfl : n = 0 := by omega
    obtain rfl : k = 0 := by omega
    have hl : l = [] := List.length_eq_zero_iff.1 h.len.symm
    subst hl
    cases a with
    | none =>
      obtain rfl := hnil rfl
      exact ⟨none, 0, fun w' => by simp [go_sem, Tryd.underlying22], bs_nilH _ _ _, Nat.le_refl _, fun _ => rfl, fun _ _ => trivial⟩
    | some ad =>
      by_cases e : c = 0
      · subst e
        exact ⟨some ad, 0, fun w' => by simp [go_sem, Tryd.underlying22], bs_nilH _ _ _, Nat.le_refl _, (fun h => by cases h), fun fb hf => hf⟩
      · exact ⟨some (ad.add 0), c, fun w' => by simp [go_sem, Tryd.underlying22, e], bs_nilH _ _ _, Nat.zero_le _, (fun h => by cases h), fun fb hf => (by show (ad.add 0).block ≠ fb; rw [add_block]; exact hf)⟩
/-- the first k bytes -/
theorem bs_upto {w : World} {a : Option Addr} {n c : Nat} {l : List Nat} (h : Bs w (.slice a n c) l) (k : Nat) (hk : k ≤ n) : Bs w (.slice a k c) (l.take k) := by
  have hlen := h.len
  have hlt := h.lt
  obtain ⟨a', c', h1, h2, h3⟩ := h
  simp only [Value.slice.injEq] at h1
  obtain ⟨rfl, h11, rfl⟩ := h1
  refine ⟨_, _, by rw [List.length_take, Nat.min_eq_left (by omega)], fun x hx => h2 x (List.mem_of_mem_take hx), fun hne => ?_⟩
  have hne2 : l ≠ [] := fun e => hne (by rw [e]; simp)
  obtain ⟨b, o, ha, hcell⟩ := h3 hne2
  refine ⟨b, o, ha, fun i hi => ?_⟩
  rw [List.length_take] at hi
  rw [hcell i (by omega), List.getD_eq_getElem?_getD, List.getD_eq_getElem?_getD, List.getElem?_take, if_pos (by omega)]
theorem or_add (a b : Nat) (h : b < 256) : a * 256 ||| b = a * 256 + b := by
  have h1 := Nat.shiftLeft_add_eq_or_of_lt (i := 8) (b := b) (by omega) a
  rw [Nat.shiftLeft_eq] at h1
  exact h1.symm
end Go.Proofs.YtehjikogdaclgaaDoor

namespace Go.Proofs.YtehjikogdaclgaaDoor
open Go Go.RowKit
set_option linter.unusedVariables false

theorem man_known (od : List Nat) (h : od.length = 32) (D : List (List Nat)) : (encTo 2 3 3 2 od D 3).take 7 = [77, 1, 2, 3, 3, 0, 2] := rfl
theorem bstr_seven : bstr [77, 1, 2, 3, 3, 0, 2] = (⟨#[77, 1, 2, 3, 3, 0, 2]⟩ : ByteArray) := by kernel_rfl
theorem bs_mark (w : World) (l : List Nat) (hl : ∀ n ∈ l, n < 256) (T : TypeId) (fr : Nat × Nat) (c : Nat) : Bs (w.alloc (.cells (u8s l).toArray T fr)) (.slice (some ⟨w.heap.size, 0, none⟩) l.length c) l :=
  ⟨_, c, rfl, hl, fun _ => ⟨w.heap.size, 0, rfl, fun i hi => by
    have h := heap_new w (.cells (u8s l).toArray T fr)
    rw [Nat.zero_add]
    unfold World.cell?
    rw [h]
    simp [u8s, hi]⟩⟩
theorem plen_2_2 : plen 2 2 = 1 := by kernel_rfl

theorem range_of_heap {w : World} {b : Nat} {cs : List Value} {T : TypeId} (h : w.heap[b]? = some (.cells cs.toArray T (0, 0))) : w.rangeAt b 0 cs := fun j v hj => by
  rw [Nat.zero_add, cell_of_heap h, List.getElem?_toArray]
  exact hj
theorem upto_run (a : Option Addr) (n c k : Nat) (h : k ≤ c) (w' : World) : (Instr.sliceAt 22 (.slice a n c) none (some (.int .i64 (k : Int))) none).run Tryd.prog w' = .ok (.slice a k c) w' := by
  have u1 : (k : Int) ≤ (c : Int) := by omega
  have u2 : (0 : Int) ≤ (k : Int) := by omega
  cases a <;> simp [go_sem, Tryd.underlying22, u1, u2]
theorem DgAt.same {w w' : World} {gd n c : Nat} {D : List (List Nat)} (h : DgAt w (.slice (some ⟨gd, 0, none⟩) n c) D) (k : w'.heap[gd]? = w.heap[gd]?) : DgAt w' (.slice (some ⟨gd, 0, none⟩) n c) D := by
  obtain ⟨a, c', h1, h2, h3⟩ := h
  refine ⟨a, c', h1, h2, fun hD => ?_⟩
  obtain ⟨b, o, h4, h5⟩ := h3 hD
  refine ⟨b, o, h4, fun j hj => range_same (h5 j hj) ?_⟩
  simp only [Value.slice.injEq] at h1
  rw [h4] at h1
  simp only [Option.some.injEq, Addr.mk.injEq] at h1
  rw [← h1.1.1]
  exact k
theorem digL_lt' (h : List Nat) : ∀ x ∈ digL h, x < 256 := fun x hx => by
  unfold digL at hx
  obtain ⟨p, _, rfl⟩ := List.mem_map.1 hx
  exact Nat.mod_lt _ (by decide)
theorem digL_lt {KC SH m : List Nat} (l : Unit) : ∀ x ∈ dig KC SH m, x < 256 := digL_lt' _
theorem dgAt_three {w : World} {gd : Nat} {KC SH l : List Nat} {k L : Nat} (h : ∀ j, j < 3 → w.rangeAt gd (j * 32) (u8s (pdg KC SH l k L j))) : DgAt w (.slice (some ⟨gd, 0, none⟩) 3 3) [pdg KC SH l k L 0, pdg KC SH l k L 1, pdg KC SH l k L 2] := by
  refine ⟨_, 3, rfl, fun d hd => ?_, fun _ => ⟨gd, 0, rfl, fun j hj => ?_⟩⟩
  · simp only [List.mem_cons, List.not_mem_nil, or_false] at hd
    rcases hd with rfl | rfl | rfl <;> exact ⟨dig_length _ _ _, digL_lt ()⟩
  · simp only [List.length_cons, List.length_nil] at hj
    rw [Nat.zero_add]
    rcases (show j = 0 ∨ j = 1 ∨ j = 2 from by omega) with rfl | rfl | rfl
    · exact h 0 (by omega)
    · exact h 1 (by omega)
    · exact h 2 (by omega)
end Go.Proofs.YtehjikogdaclgaaDoor
