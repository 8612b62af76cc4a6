/-
  Points that come in, and append([]api.Point{}, points...).
-/
import Derived.Test.YtfleplbdcpdphaaOpen
import Derived.Test.YtfleplbdcpdphaaIntp
import Derived.Test.YtfleplbdcpdphaaApp
namespace Go.Proofs.Ytfleplbdcpdphaa
open Go.ChangeShapes Go.WideShapes Go.ChangeAt Go.RowKit
set_option linter.unusedVariables false

/-- the cells of points -/
def ptc : List Nat → List Nat → List Value
  | x :: X, y :: Y => .int .u8 ((x : Nat) : Int) :: .int .u8 ((y : Nat) : Int) :: ptc X Y
  | _, _ => []
theorem ptc_length : ∀ (X Y : List Nat), Y.length = X.length → (ptc X Y).length = X.length * 2
  | [], _, _ => rfl
  | x :: X, [], h => by simp at h
  | x :: X, y :: Y, h => by
    have := ptc_length X Y (by simpa using h)
    simp only [ptc, List.length_cons, this]
    omega
theorem ptc_get : ∀ (X Y : List Nat), Y.length = X.length → ∀ i, i < X.length → (ptc X Y)[i * 2]? = some (.int .u8 ((X.getD i 0 : Nat) : Int)) ∧ (ptc X Y)[i * 2 + 1]? = some (.int .u8 ((Y.getD i 0 : Nat) : Int))
  | [], _, _, i, hi => absurd hi (Nat.not_lt_zero _)
  | x :: X, [], h, _, _ => by simp at h
  | x :: X, y :: Y, h, 0, _ => ⟨rfl, rfl⟩
  | x :: X, y :: Y, h, i + 1, hi => by
    have := ptc_get X Y (by simpa using h) i (by simpa using hi)
    rw [show (i + 1) * 2 = i * 2 + 1 + 1 from by omega]
    simpa only [ptc, List.getElem?_cons_succ, List.getD_cons_succ] using this
theorem ptc_one : ∀ (X Y : List Nat) (v : Value), v ∈ ptc X Y → v.oneCell' = true
  | [], _, v, h => absurd h List.not_mem_nil
  | x :: X, [], v, h => absurd h List.not_mem_nil
  | x :: X, y :: Y, v, h => by
    simp only [ptc, List.mem_cons] at h
    rcases h with rfl | rfl | h
    · rfl
    · rfl
    · exact ptc_one X Y v h
theorem ptc_snoc : ∀ (X Y : List Nat) (x y : Nat), Y.length = X.length → ptc X Y ++ [.int .u8 ((x : Nat) : Int), .int .u8 ((y : Nat) : Int)] = ptc (X ++ [x]) (Y ++ [y])
  | [], [], _, _, _ => rfl
  | [], _ :: _, _, _, h => by simp at h
  | _ :: _, [], _, _, h => by simp at h
  | a :: X, b :: Y, x, y, h => by
    simp only [ptc, List.cons_append, ptc_snoc X Y x y (by simpa using h)]
theorem ptc_mem (w : World) (b o : Nat) (X Y : List Nat) (hl : Y.length = X.length) (h : ∀ i, i < X.length → w.cell? ⟨b, o + i * 2, none⟩ = some (.int .u8 ((X.getD i 0 : Nat) : Int)) ∧ w.cell? ⟨b, o + i * 2 + 1, none⟩ = some (.int .u8 ((Y.getD i 0 : Nat) : Int))) :
    ∀ j u, (ptc X Y)[j]? = some u → w.cell? ((⟨b, o, none⟩ : Addr).add j) = some u := by
  intro j u hj
  have hjl := (List.getElem?_eq_some_iff.1 hj).1
  rw [ptc_length X Y hl] at hjl
  have hi : j / 2 < X.length := by omega
  obtain ⟨g0, g1⟩ := ptc_get X Y hl _ hi
  obtain ⟨h0, h1⟩ := h _ hi
  rw [add_none]
  rcases Nat.mod_two_eq_zero_or_one j with e | e
  · have e2 : j = j / 2 * 2 := by omega
    rw [e2] at hj ⊢
    rw [h0, ← g0, hj]
  · have e2 : j = j / 2 * 2 + 1 := by omega
    rw [e2] at hj ⊢
    rw [← Nat.add_assoc, h1, ← g1, hj]
theorem info_pt : (Try.prog.info? 72).map (fun i => (i.zero, i.size, i.bytes)) = some (some (.agg #[.int .u8 0, .int .u8 0]), 2, 2) := by kernel_rfl

theorem pt_of_owns {w : World} {base : Nat} {v : Value} {m : Nat} {X Y : List Nat} (h : w.ownsRow base 72 2 v m (ptc X Y)) (hl : Y.length = X.length) (hX : ∀ i, X.getD i 0 < 256) (hY : ∀ i, Y.getD i 0 < 256) :
    ∃ a c, v = .slice a m c ∧ m = X.length ∧ m ≤ c ∧ Pt w v X Y ∧ (∀ ad, a = some ad → base ≤ ad.block ∧ ad.block < w.heap.size) ∧ (a = none → c = 0) := by
  obtain ⟨h1, h2⟩ := h
  have hm : m = X.length := by rw [ptc_length X Y hl] at h1; omega
  rcases h2 with ⟨rfl, h0⟩ | ⟨g, cap, cur, rfl, hg, hh, hc, _, hs, ht⟩
  · have hX0 : X = [] := List.eq_nil_of_length_eq_zero (by omega)
    subst hX0; subst h0
    exact ⟨none, 0, rfl, rfl, Nat.le_refl _, ⟨none, 0, rfl, hl, hX, hY, fun e => absurd rfl e⟩, (fun ad h => by cases h), fun _ => rfl⟩
  · refine ⟨_, cap, rfl, hm, hc, ⟨_, cap, by rw [hm], hl, hX, hY, fun _ => ⟨g, 0, rfl, fun i hi => ?_⟩⟩, (fun ad h => by cases h; exact ⟨hg, lt_of_heap hh⟩), (fun h => by cases h)⟩
    obtain ⟨g0, g1⟩ := ptc_get X Y hl i hi
    rw [Nat.zero_add, cell_of_heap hh, cell_of_heap hh]
    rw [← ht] at g0 g1
    rw [List.getElem?_take_of_lt (by omega)] at g0 g1
    rw [← Array.getElem?_toList, ← Array.getElem?_toList]
    exact ⟨g0, g1⟩

theorem wpList_cloneP {w : World} {ops : Array Oper} {rest : List Oper} {o : Oper} {a : Act} {Q : Exit → Act → World → Prop} (hgd : o.guard = none) (s x : Operand)
    (ho : o.op = .call { callee := .builtin .append, args := #[s, x], argTypes := #[68, 68] }) (g0 : Nat) (hs : a.eval s = .slice (some ⟨g0, 0, none⟩) 0 0) (hg0 : w.heap[g0]? = some (.cells #[] 72 (0, 0)))
    (sa : Option Addr) (m c : Nat) (X Y : List Nat) (hx : a.eval x = .slice sa m c) (hb : Pt w (.slice sa m c) X Y) (hnil : sa = none → c = 0) (hm : m ≤ 4611686018427)
    (h : ∀ a' c' w', Pt w' (.slice a' m c') X Y → m ≤ c' → (∀ ad, a' = some ad → g0 ≤ ad.block ∧ ad.block < w'.heap.size) → (a' = none → c' = 0) → Kept g0 w w' → wpList Try.prog ops Q rest (a.put o.dst (.slice a' m c')) w') :
    wpList Try.prog ops Q (o :: rest) a w := by
  obtain ⟨i0, hi, hz0, hz1, hz2⟩ := info_parts info_pt
  have hown : w.ownsRow g0 72 2 (.slice (some ⟨g0, 0, none⟩) 0 0) 0 [] := ⟨rfl, .inr ⟨g0, 0, #[], rfl, Nat.le_refl _, hg0, Nat.le_refl _, Nat.zero_le _, rfl, rfl⟩⟩
  have hlt := lt_of_heap hg0
  obtain ⟨hlen, hlY⟩ := hb.len
  have hY : Y.length = X.length := by omega
  obtain ⟨pa, pc, h3, _, hX256, hY256, hcell⟩ := hb
  simp only [Value.slice.injEq] at h3
  cases sa with
  | none =>
    have h0 : X = [] := by
      rcases Classical.em (X = []) with h | h
      · exact h
      · obtain ⟨b, o', ha, _⟩ := hcell h
        rw [ha] at h3
        exact absurd h3.1 (by simp)
    subst h0
    obtain rfl : m = 0 := hlen
    have hY0 : Y = [] := List.eq_nil_of_length_eq_zero hlY
    subst hY0
    refine Go.wpList_append_own_none hgd s x _ ho g0 _ i0 2 Try.underlying68 hi _ 0 [] hs hown (by rw [hx, hnil rfl]) ?_
    exact h _ _ _ ⟨_, 0, rfl, rfl, hX256, hY256, fun e => absurd rfl e⟩ (Nat.le_refl _) (fun ad h => by cases h; exact ⟨Nat.le_refl _, hlt⟩) (fun h => by cases h) (Kept.refl _ _)
  | some ad =>
    have hnews : ∀ j u, (ptc X Y)[j]? = some u → w.cell? (ad.add j) = some u := fun j u hj => by
      have hjl := (List.getElem?_eq_some_iff.1 hj).1
      rw [ptc_length X Y hY] at hjl
      obtain ⟨b, o', ha, hc⟩ := hcell (by intro e; rw [e] at hjl; exact absurd hjl (Nat.not_lt_zero _))
      have had : ad = ⟨b, o', none⟩ := Option.some.inj (h3.1.trans ha)
      subst had
      exact ptc_mem w b o' X Y hY hc j u hj
    refine Go.wpList_append_own _ hgd s x _ ho g0 72 i0 (.agg #[.int .u8 0, .int .u8 0]) 2 2 Try.underlying68 hi hz0 hz1 hz2 rfl (by decide) _ 0 [] hs hown ad m c (ptc X Y) hx (by rw [ptc_length X Y hY]; omega) hnews (ptc_one X Y) (by unfold maxLen; omega) (by omega) (by omega) ?_
    intro v' w' hown' hg hn
    rw [Nat.zero_add, List.nil_append] at hown'
    obtain ⟨a', c', rfl, hm', hmc, hb', hbl, hnl⟩ := pt_of_owns hown' hY hX256 hY256
    exact h a' c' w' hb' hmc hbl hnl ⟨hg.os, hg.tape, hg.output, hg.size, fun k hk hkg => hg.block k hk (by intro e; exact hkg (Option.some.inj e))⟩

/-- points that came in -/
def PtW (W : World) (v : Value) : Prop := ∃ a n c X Y, v = .slice a n c ∧ Pt W v X Y ∧ n ≤ c ∧ (a = none → c = 0)
section
variable {H : Type} {enc : TypeId × Value → H} {W : World}
theorem open_pts {fuel : Nat} {cs : List Value} {x : DataW H × List MemPlace} (h : DataW.trod enc Try.prog W 0 (fun _ => true) true fuel 68 cs = some x) : ∃ v, cs = [v] ∧ PtW W v := by
  rcases Deep.open_slice_pairs Try.underlying68 Try.underlying72 (by kernel_rfl) rfl rfl (by kernel_rfl) (by kernel_rfl) h with ⟨hcs, _⟩ | ⟨a, len, cap, m, n, V0, V1, D0, D1, P0, P1, hcs, _, hl, _, hm, _, hx⟩
  · exact ⟨_, hcs, none, 0, 0, [], [], rfl, ⟨none, 0, rfl, rfl, fun i => by simp, fun i => by simp, fun h => absurd rfl h⟩, Nat.le_refl _, fun _ => rfl⟩
  · have hm' : m = cap := by simpa using hm
    have each : ∀ i, i < len → ∃ q : Nat × Nat, V0 i = .int .u8 ((q.1 : Nat) : Int) ∧ V1 i = .int .u8 ((q.2 : Nat) : Int) ∧ q.1 < 256 ∧ q.2 < 256 := fun i hi => by
      obtain ⟨_, _, h0, h1⟩ := hx i (by omega)
      obtain ⟨y, e0, _, hwf⟩ := DataW.trod_int Try.underlying5 h0
      obtain ⟨z, e1, _, hwf2⟩ := DataW.trod_int Try.underlying5 h1
      obtain ⟨y, rfl, hy⟩ := nat_of_u8 hwf
      obtain ⟨z, rfl, hz⟩ := nat_of_u8 hwf2
      simp only [List.cons.injEq, and_true] at e0 e1
      exact ⟨(y, z), e0, e1, hy, hz⟩
    obtain ⟨q, hq⟩ := Deep.choose_lt each
    refine ⟨_, hcs, some a, len, cap, (List.range len).map fun i => (q i).1, (List.range len).map fun i => (q i).2, rfl, ⟨some a, cap, by simp, by simp, fun i => ?_, fun i => ?_, fun hne => ?_⟩, hl, fun h => (by cases h)⟩
    · rw [rangeF_getD]
      split
      · next h => exact (hq i h).2.2.1
      · omega
    · rw [rangeF_getD]
      split
      · next h => exact (hq i h).2.2.2
      · omega
    · have h0 : 0 < len := by
        rcases Nat.eq_zero_or_pos len with h | h
        · subst h; exact absurd rfl hne
        · exact h
      obtain ⟨b, o, spot⟩ := a
      obtain ⟨hc, _⟩ := hx 0 (by omega)
      have hspot : spot = none := by simpa [Addr.add] using World.cell?_spot hc
      subst hspot
      refine ⟨b, o, rfl, fun i hi => ?_⟩
      have hi2 : i < len := by simpa using hi
      obtain ⟨h1, h2, _⟩ := hx i (by omega)
      rw [add_none] at h1 h2
      obtain ⟨e0, e1, _⟩ := hq i hi2
      rw [rangeF_getD, rangeF_getD, if_pos hi2, if_pos hi2, ← e0, ← e1]
      simpa using ⟨h1, h2⟩
end
end Go.Proofs.Ytfleplbdcpdphaa
