/-
  A copy of bytes that may be written; pieces kept while a field is used. · What a Hash holds of a message, and a copy of bytes into its chunk. · Write: bytes taken into a Hash.
-/
import Derived.Test.YtehjikogdaclgaaDoorBb3
import Derived.Test.YtehjikogdaclgaaDoorBb4
import Derived.Test.YtehjikogdaclgaaDoorBb2
import Derived.Deep.RegionHeld3
namespace Go.Proofs.YtehjikogdaclgaaDoor
open Go Go.RowKit
set_option linter.unusedVariables false

/-- block g holds the bytes l and what lies behind them, and may be written -/
def Buf (w : World) (g cap : Nat) (l : List Nat) : Prop := ∃ cur : Array Value, w.heap[g]? = some (.cells cur 5 (0, 0)) ∧ cur.size = cap ∧ l.length ≤ cap ∧ cur.toList.take l.length = u8s l
theorem Buf.lt {w : World} {g cap : Nat} {l : List Nat} (h : Buf w g cap l) : g < w.heap.size := by obtain ⟨_, h1, _⟩ := h; exact lt_of_heap h1
theorem Buf.of_same {w w' : World} {g cap : Nat} {l : List Nat} (h : Buf w g cap l) (hs : w'.heap[g]? = w.heap[g]?) : Buf w' g cap l := by
  obtain ⟨cur, h1, h2⟩ := h
  exact ⟨cur, hs.trans h1, h2⟩
theorem Buf.drewN {w : World} {g cap : Nat} {l : List Nat} (h : Buf w g cap l) (q : Nat) : Buf (w.drewN q) g cap l := h
theorem Buf.cell {w : World} {g cap : Nat} {l : List Nat} (h : Buf w g cap l) (i : Nat) (hi : i < l.length) : w.cell? ⟨g, i, none⟩ = some (.int .u8 (l.getD i 0)) := by
  obtain ⟨cur, h1, h2, h3, h4⟩ := h
  rw [cell_of_heap h1, ← Array.getElem?_toList, ← List.getElem?_take_of_lt hi, h4]
  simp [u8s, List.getElem?_eq_getElem hi]
theorem Buf.free {w : World} {g cap : Nat} {l : List Nat} (h : Buf w g cap l) (i : Nat) : w.frozen? ⟨g, i, none⟩ = false := by
  obtain ⟨cur, h1, _⟩ := h
  exact free_of_heap h1 i
theorem Buf.bs {w : World} {g cap : Nat} {l : List Nat} (h : Buf w g cap l) (hl : ∀ n ∈ l, n < 256) (c : Nat) : Bs w (.slice (some ⟨g, 0, none⟩) l.length c) l :=
  ⟨_, c, rfl, hl, fun _ => ⟨g, 0, rfl, fun i hi => by rw [Nat.zero_add]; exact h.cell i hi⟩⟩
theorem Buf.set {w : World} {g cap : Nat} {l : List Nat} (h : Buf w g cap l) (i n : Nat) (hi : i < l.length) : Buf (w.setCell ⟨g, i, none⟩ (.int .u8 n)) g cap (l.set i n) := by
  obtain ⟨cur, h1, h2, h3, h4⟩ := h
  refine ⟨cur.setIfInBounds i (.int .u8 n), ?_, by simpa using h2, by simpa using h3, ?_⟩
  · have h5 : w.heap[g]? = some (.cells cur.toList.toArray 5 (0, 0)) := by simpa using h1
    have h6 := heap_set h5 i (.int .u8 n)
    rw [h6]
  · rw [List.length_set, Array.toList_setIfInBounds, List.take_set, h4]
    simp [u8s, List.map_set]
theorem Buf.setCell {w : World} {g cap : Nat} {l : List Nat} (h : Buf w g cap l) {p : Addr} (hp : p.block ≠ g) (u : Value) : Buf (w.setCell p u) g cap l := h.of_same (Below.heap_setCell _ _ _ _ (fun e => hp e.symm))
theorem buf_of_owns {w : World} {base m c : Nat} {a : Option Addr} {l : List Nat} (h : w.ownsRow base 5 1 (.slice a m c) m (u8s l)) (h0 : 0 < m) : ∃ g, a = some ⟨g, 0, none⟩ ∧ base ≤ g ∧ Buf w g c l ∧ m = l.length := by
  obtain ⟨h1, h2⟩ := h
  have hm : m = l.length := by simpa [u8s] using h1.symm
  rcases h2 with ⟨_, h3⟩ | ⟨g, cap, cur, h3, hg, hh, hc, _, hs, ht⟩
  · omega
  · simp only [Value.slice.injEq] at h3
    obtain ⟨rfl, _, rfl⟩ := h3
    exact ⟨g, rfl, hg, ⟨cur, hh, by omega, by omega, by rw [← ht, hm]; simp⟩, hm⟩

theorem wpList_cloneB {w : World} {ops : Array Oper} {rest : List Oper} {o : Oper} {a : Act} {Q : Exit → Act → World → Prop} (hgd : o.guard = none) (s x : Operand)
    (ho : o.op = .call { callee := .builtin .append, args := #[s, x], argTypes := #[22, 22] }) (g0 : Nat) (hs : a.eval s = .slice (some ⟨g0, 0, none⟩) 0 0) (hg0 : w.heap[g0]? = some (.cells #[] 5 (0, 0)))
    (sa : Option Addr) (m c : Nat) (l : List Nat) (hx : a.eval x = .slice sa m c) (hb : Bs w (.slice sa m c) l) (hnil : sa = none → c = 0) (hm : m ≤ 4611686018427)
    (h : ∀ a' c' w', Bs w' (.slice a' m c') l → m ≤ c' → (∀ ad, a' = some ad → g0 ≤ ad.block ∧ ad.block < w'.heap.size) → (a' = none → c' = 0) → Kept g0 w w' → w'.ownsRow g0 5 1 (.slice a' m c') m (u8s l) → wpList Tryd.prog ops Q rest (a.put o.dst (.slice a' m c')) w') :
    wpList Tryd.prog ops Q (o :: rest) a w := by
  obtain ⟨i0, hi, hz0, hz1, hz2⟩ := info_parts info5
  have hown : w.ownsRow g0 5 1 (.slice (some ⟨g0, 0, none⟩) 0 0) 0 [] := ⟨rfl, .inr ⟨g0, 0, #[], rfl, Nat.le_refl _, hg0, Nat.le_refl _, Nat.zero_le _, rfl, rfl⟩⟩
  have hlt := lt_of_heap hg0
  have hl : ∀ n ∈ l, n < 256 := by obtain ⟨_, _, _, h, _⟩ := hb; exact h
  have hlen := hb.len
  cases sa with
  | none =>
    obtain rfl := hnil rfl
    rcases hb.addr with ⟨h0, _⟩ | ⟨_, b, o, c', hv⟩
    · subst h0
      obtain rfl : m = 0 := hlen
      refine Go.wpList_append_own_none hgd s x _ ho g0 _ i0 1 Tryd.underlying22 hi _ 0 [] hs hown hx ?_
      exact h _ _ _ ⟨_, 0, rfl, fun n hn => absurd hn List.not_mem_nil, fun e => absurd rfl e⟩ (Nat.le_refl _) (fun ad h => by cases h; exact ⟨Nat.le_refl _, hlt⟩) (fun h => by cases h) (Kept.refl _ _) hown
    · simp at hv
  | some ad =>
    have hnews : ∀ j u, (u8s l)[j]? = some u → w.cell? (ad.add j) = some u := fun j u hj => by
      have hjl : j < l.length := by have := (List.getElem?_eq_some_iff.1 hj).1; simpa [u8s] using this
      rcases hb.addr with ⟨h0, _⟩ | ⟨_, b, o, c', hv⟩
      · rw [h0] at hjl; exact absurd hjl (Nat.not_lt_zero _)
      · simp only [Value.slice.injEq, Option.some.injEq] at hv
        obtain ⟨rfl, _, _⟩ := hv
        have hc := hb.cell j hjl
        have e : (⟨b, o, none⟩ : Addr).add j = ⟨b, o + j, none⟩ := by unfold Addr.add; split <;> simp_all
        rw [e, hc, ← hj]
        simp [u8s, List.getElem?_eq_getElem hjl]
    refine Go.wpList_append_own _ hgd s x _ ho g0 5 i0 (.int .u8 0) 1 1 Tryd.underlying22 hi hz0 hz1 hz2 rfl (by decide) _ 0 [] hs hown ad m c (u8s l) hx (by simp [u8s]; omega) hnews (fun u hu => by
      unfold u8s at hu
      obtain ⟨y, _, rfl⟩ := List.mem_map.1 hu
      rfl) (by unfold maxLen; omega) (by omega) (by omega) ?_
    intro v' w' hown' hg hn
    rw [Nat.zero_add, List.nil_append] at hown'
    have hown2 := hown'
    obtain ⟨a', c', rfl, hm', hmc, hb', hbl⟩ := bs_of_owns hown' hl
    refine h a' c' w' hb' hmc hbl (fun e => ?_) ⟨hg.os, hg.tape, hg.output, hg.size, fun k hk hkg => hg.block k hk (by intro e; exact hkg (Option.some.inj e))⟩ hown2
    subst e
    obtain ⟨_, h2⟩ := hown'
    rcases h2 with ⟨h3, _⟩ | ⟨g, cap, cur, h3, _⟩
    · simp at h3; exact h3.2
    · simp at h3

theorem Pcs.kept {w w' : World} {g B t L fb : Nat} {bf : Nat → Nat} {D : Nat → List Nat} (h : Pcs w g B t L bf D) (k : Kept fb w w') (hg : fb ≠ g) (hB : fb < B) : Pcs w' g B t L bf D := by
  refine ⟨(k.block g h.own.lt (fun e => hg e.symm)).trans h.own, fun j hj => ?_, h.low, h.inj, h.notb⟩
  have h1 := h.row j hj
  have h2 := h.low j hj
  exact (k.block (bf j) h1.lt (by omega)).trans h1
theorem Pcs.below {w w' : World} {g B t L : Nat} {bf : Nat → Nat} {D : Nat → List Nat} (h : Pcs w g B t L bf D) (k : Below w.heap.size w w') : Pcs w' g B t L bf D :=
  ⟨(k.block g h.own.lt).trans h.own, fun j hj => (k.block (bf j) (h.row j hj).lt).trans (h.row j hj), h.low, h.inj, h.notb⟩
end Go.Proofs.YtehjikogdaclgaaDoor

namespace Go.Proofs.YtehjikogdaclgaaDoor
open Go Go.RowKit
set_option linter.unusedVariables false

theorem wj_congr {c d : Nat → Nat} (h : ∀ j, j < 64 → c j = d j) (i : Nat) (hi : i < 16) : ∀ j, j ≤ 4 → wj c i j = wj d i j
  | 0, _ => rfl
  | j + 1, hj => by
    show (wj c i j * 256 % 4294967296) ||| c (4 * i + j) = (wj d i j * 256 % 4294967296) ||| d (4 * i + j)
    rw [wj_congr h i hi j (by omega), h _ (by omega)]
theorem schL_congr {c d : Nat → Nat} (h : ∀ j, j < 64 → c j = d j) : ∀ k, schL c k = schL d k
  | 0 => by
    show ((List.range 16).map fun i => wj c i 4) = ((List.range 16).map fun i => wj d i 4)
    exact List.map_congr_left fun i hi => wj_congr h i (List.mem_range.1 hi) 4 (Nat.le_refl _)
  | k + 1 => by
    show schL c k ++ [nx (schL c k) (16 + k)] = schL d k ++ [nx (schL d k) (16 + k)]
    rw [schL_congr h k]
theorem cmp_congr {c d : Nat → Nat} (K : Nat → Nat) (x : List Nat) (h : ∀ j, j < 64 → c j = d j) : cmp K x c = cmp K x d := by
  unfold cmp cmpTo
  rw [schL_congr h 48]
theorem cmp_length (K : Nat → Nat) (h : List Nat) (c : Nat → Nat) : (cmp K h c).length = 8 := cmpTo_length _ _ _ _
/-- the state after n chunks of a message -/
def hsK (K : Nat → Nat) (SH m : List Nat) : Nat → List Nat | 0 => SH | n + 1 => cmp K (hsK K SH m n) (fun j => m.getD (64 * n + j) 0)
theorem getD_app (m b : List Nat) (i : Nat) : (m ++ b).getD i 0 = if i < m.length then m.getD i 0 else b.getD (i - m.length) 0 := by
  rw [List.getD_eq_getElem?_getD]
  by_cases h : i < m.length
  · rw [if_pos h, List.getElem?_append_left h, ← List.getD_eq_getElem?_getD]
  · rw [if_neg h, List.getElem?_append_right (by omega), ← List.getD_eq_getElem?_getD]
theorem hsK_app (K : Nat → Nat) (SH m b : List Nat) : ∀ n, 64 * n ≤ m.length → hsK K SH (m ++ b) n = hsK K SH m n
  | 0, _ => rfl
  | n + 1, h => by
    show cmp K (hsK K SH (m ++ b) n) _ = cmp K (hsK K SH m n) _
    rw [hsK_app K SH m b n (by omega)]
    exact cmp_congr K _ fun j hj => by rw [getD_app, if_pos (by omega)]
/-- bytes laid into the chunk from r on -/
def putL (c : List Nat) (r : Nat) (l : List Nat) : List Nat := c.take r ++ l ++ c.drop (r + l.length)
theorem putL_length {c l : List Nat} {r : Nat} (hc : c.length = 64) (h : r + l.length ≤ 64) : (putL c r l).length = 64 := by
  unfold putL
  simp [hc]
  omega
theorem putL_getD {c l : List Nat} {r : Nat} (hc : c.length = 64) (h : r + l.length ≤ 64) (j : Nat) : (putL c r l).getD j 0 = if j < r then c.getD j 0 else if j < r + l.length then l.getD (j - r) 0 else c.getD j 0 := by
  unfold putL
  have h1 : (c.take r).length = r := by rw [List.length_take]; omega
  rw [List.append_assoc, getD_app, h1]
  by_cases hj : j < r
  · rw [if_pos hj, if_pos hj, List.getD_eq_getElem?_getD, List.getElem?_take_of_lt hj, ← List.getD_eq_getElem?_getD]
  · rw [if_neg hj, if_neg hj, getD_app]
    by_cases h2 : j < r + l.length
    · rw [if_pos (by omega), if_pos h2]
    · rw [if_neg (by omega), if_neg h2, List.getD_eq_getElem?_getD, List.getElem?_drop, ← List.getD_eq_getElem?_getD]
      congr 1
      omega
theorem hcells_put {h c l : List Nat} {size r : Nat} (hh : h.length = 8) (hc : c.length = 64) (hr : r + l.length ≤ 64) :
    (hcells h c size).take (8 + r) ++ u8s l ++ (hcells h c size).drop (8 + r + (u8s l).length) = hcells h (putL c r l) size := by
  have h1 : (u32s h).length = 8 := by rw [u32s_length, hh]
  have h2 : (u8s c).length = 64 := by simp [u8s, hc]
  have h3 : (u8s l).length = l.length := by simp [u8s]
  have e1 : (hcells h c size).take (8 + r) = u32s h ++ (u8s c).take r := by
    unfold hcells
    rw [List.take_append, h1, List.take_of_length_le (by omega), Nat.add_sub_cancel_left, List.take_append_of_le_length (by omega)]
  have e2 : (hcells h c size).drop (8 + r + (u8s l).length) = (u8s c).drop (r + l.length) ++ [.int .i64 (size : Int)] := by
    unfold hcells
    rw [h3, List.drop_append, h1, List.drop_eq_nil_of_le (by omega), List.nil_append, show 8 + r + l.length - 8 = r + l.length from by omega, List.drop_append_of_le_length (by omega)]
  rw [e1, e2]
  unfold hcells putL
  simp [u8s, List.append_assoc]
/-- the Hash holds the message -/
def MsgAt (w : World) (hb : Nat) (KC SH m : List Nat) : Prop := ∃ h c, HashAt w hb h c m.length ∧ h = hsK (fun i => KC.getD i 0) SH m (m.length / 64) ∧ ∀ j, j < m.length % 64 → c.getD j 0 = m.getD (64 * (m.length / 64) + j) 0
theorem MsgAt.same {w w' : World} {hb : Nat} {KC SH m : List Nat} (M : MsgAt w hb KC SH m) (hs : w'.heap[hb]? = w.heap[hb]?) : MsgAt w' hb KC SH m := by
  obtain ⟨h, c, H, e1, e2⟩ := M
  exact ⟨h, c, H.same hs, e1, e2⟩
/-- more bytes that do not fill the chunk -/
theorem msg_part {w : World} {hb : Nat} {KC SH m l h c : List Nat} (H : HashAt w hb h (putL c (m.length % 64) l) (m ++ l).length) (hc : c.length = 64) (e1 : h = hsK (fun i => KC.getD i 0) SH m (m.length / 64)) (e2 : ∀ j, j < m.length % 64 → c.getD j 0 = m.getD (64 * (m.length / 64) + j) 0) (hl : m.length % 64 + l.length < 64) : MsgAt w hb KC SH (m ++ l) := by
  have hd : (m ++ l).length / 64 = m.length / 64 := by rw [List.length_append]; omega
  have hm : (m ++ l).length % 64 = m.length % 64 + l.length := by rw [List.length_append]; omega
  refine ⟨h, _, H, ?_, fun j hj => ?_⟩
  · rw [hd, hsK_app _ _ _ _ _ (by omega)]
    exact e1
  · rw [hm] at hj
    rw [putL_getD hc (by omega), hd, getD_app]
    by_cases h1 : j < m.length % 64
    · rw [if_pos h1, if_pos (by omega)]
      exact e2 j h1
    · rw [if_neg h1, if_pos hj, if_neg (by omega)]
      congr 1
      omega
/-- more bytes that fill the chunk, and the chunk taken in -/
theorem msg_full {w : World} {hb : Nat} {KC SH m l h c : List Nat} (hc : c.length = 64) (e1 : h = hsK (fun i => KC.getD i 0) SH m (m.length / 64)) (e2 : ∀ j, j < m.length % 64 → c.getD j 0 = m.getD (64 * (m.length / 64) + j) 0) (hl : m.length % 64 + l.length = 64)
    (H : HashAt w hb (cmp (fun i => KC.getD i 0) h (fun j => (putL c (m.length % 64) l).getD j 0)) (putL c (m.length % 64) l) (m ++ l).length) : MsgAt w hb KC SH (m ++ l) := by
  have hd : (m ++ l).length / 64 = m.length / 64 + 1 := by rw [List.length_append]; omega
  have hm : (m ++ l).length % 64 = 0 := by rw [List.length_append]; omega
  refine ⟨_, _, H, ?_, fun j hj => by omega⟩
  rw [hd]
  show _ = cmp _ (hsK _ SH (m ++ l) (m.length / 64)) _
  rw [hsK_app _ _ _ _ _ (by omega), ← e1]
  refine cmp_congr _ _ fun j hj => ?_
  rw [putL_getD hc (by omega), getD_app]
  by_cases h1 : j < m.length % 64
  · rw [if_pos h1, if_pos (by omega)]
    exact e2 j h1
  · rw [if_neg h1, if_pos (by omega), if_neg (by omega)]
    congr 1
    omega
theorem size5' : (Tryd.prog.info? 5).map (·.size) = some 1 := by kernel_rfl
theorem u8s_oneH (l : List Nat) : ∀ v ∈ u8s l, v.oneCell' = true := by
  intro v hv
  unfold u8s at hv
  obtain ⟨y, _, rfl⟩ := List.mem_map.1 hv
  rfl
/-- copy into the chunk -/
theorem step_copy_hash {ops : Array Oper} {o : Oper} {a : Act} {w : World} {K : Act → World → Prop} {Q : Exit → Act → World → Prop} {E : Prop} (hgd : o.guard = none) (d s : Operand)
    (ho : o.op = .call { callee := .builtin .copy, args := #[d, s], argTypes := #[22, 22] }) (hb r size n k : Nat) (h c : List Nat) (H : HashAt w hb h c size) (hr : r < 64)
    (hd : a.eval d = .slice (some ⟨hb, 8 + r, none⟩) (64 - r) (64 - r)) (sa : Option Addr) (sCap : Nat) (hs : a.eval s = .slice sa n sCap) (l : List Nat) (hbs : Bs w (.slice sa n sCap) l) (hn : 1 ≤ n) (hk : k = Nat.min n (64 - r))
    (hK : ∀ w', HashAt w' hb h (putL c r (l.take k)) size → Kept hb w w' → K (a.put o.dst (goInt (k : Nat))) w') :
    if Region.wanted o (yielded ops a.tmps) = true then Oper.wp Tryd.prog o a w K Q else E := by
  have hw : Region.wanted o (yielded ops a.tmps) = true := by simp [Region.wanted, hgd]
  rw [if_pos hw]
  have hlen := hbs.len
  have hk1 : k ≤ n := by rw [hk]; exact Nat.min_le_left _ _
  have hk2 : k ≤ 64 - r := by rw [hk]; exact Nat.min_le_right _ _
  have hne : l ≠ [] := by intro e; rw [e] at hlen; simp at hlen; omega
  obtain ⟨b, o', rfl⟩ : ∃ b o', sa = some ⟨b, o', none⟩ := by
    rcases hbs.addr with ⟨h0, _⟩ | ⟨_, b, o', c', hv⟩
    · exact absurd h0 hne
    · simp only [Value.slice.injEq] at hv
      exact ⟨b, o', hv.1⟩
  have hlk : (l.take k).length = k := by rw [List.length_take]; omega
  have hl2 : (u8s (l.take k)).length = k := by simp [u8s]; omega
  have hsrc : ∀ j v, (u8s (l.take k))[j]? = some v → w.cell? ((⟨b, o', none⟩ : Addr).add j) = some v := fun j v hj => by
    have hjl : j < k := by have := (List.getElem?_eq_some_iff.1 hj).1; omega
    have e : (⟨b, o', none⟩ : Addr).add j = ⟨b, o' + j, none⟩ := by unfold Addr.add; split <;> simp_all
    rw [e, hbs.cell j (by omega), ← hj]
    simp [u8s, hjl, List.getElem?_eq_getElem (show j < l.length by omega)]
  have hcl : (hcells h c size).length = 73 := by simp [hcells, u32s_length, u8s, H.hl, H.cl]
  have hrun := run_copy_row (P := Tryd.prog) w 22 22 o.type 5 hb (8 + r) (64 - r) (64 - r) ⟨b, o', none⟩ n sCap (hcells h c size).toArray 112 (u8s (l.take k)) Tryd.underlying22 size5' H.at_ (by rw [hl2]; exact hk.trans rfl) hsrc (by rw [hl2, List.size_toArray, hcl]; omega) (u8s_oneH _)
  rw [List.toList_toArray, hcells_put H.hl H.cl (by rw [hlk]; omega), hl2] at hrun
  unfold Oper.wp
  simp [execOp, ho, resolve, invoke, builtin, hd, hs, hrun, Result.andThen]
  refine hK _ ⟨setRow_heap w hb _ _ _ _ H.at_, H.hl, putL_length H.cl (by rw [hlk]; omega), H.ho, fun i => ?_⟩ ⟨rfl, rfl, rfl, by simp [World.setRow], fun k _ hk => setRow_other w hb k _ hk⟩
  rw [putL_getD H.cl (by rw [hlk]; omega)]
  split
  · exact H.co i
  · split
    · have := hbs.lt (i - r)
      rw [List.getD_eq_getElem?_getD, List.getElem?_take_of_lt (by omega), ← List.getD_eq_getElem?_getD]
      exact this
    · exact H.co i
end Go.Proofs.YtehjikogdaclgaaDoor

namespace Go.Proofs.YtehjikogdaclgaaDoor
open Go Go.RowKit
set_option linter.unusedVariables false

def slLen : Value → Nat | .slice _ n _ => n | _ => 0
theorem bs_nilH (w : World) (a : Option Addr) (c : Nat) : Bs w (.slice a 0 c) [] := ⟨a, c, rfl, fun n hn => absurd hn List.not_mem_nil, fun e => absurd rfl e⟩
/-- what follows the first k bytes -/
theorem bs_from {w : World} {a : Option Addr} {n c : Nat} {l : List Nat} (h : Bs w (.slice a n c) l) (hn : 1 ≤ n) (hc : n ≤ c) (k : Nat) (hk : k ≤ n) :
    ∃ a' c', (∀ w', (Instr.sliceAt 22 (.slice a n c) (some (.int .i64 (k : Int))) none none).run Tryd.prog w' = .ok (.slice a' (n - k) c') w') ∧ Bs w (.slice a' (n - k) c') (l.drop k) ∧ n - k ≤ c' ∧ (a' = none → c' = 0) ∧ (∀ fb, Off fb (.slice a n c) → Off fb (.slice a' (n - k) c')) := by
  have hlen := h.len
  have hlt := h.lt
  obtain ⟨b, o, rfl⟩ : ∃ b o, a = some ⟨b, o, none⟩ := by
    rcases h.addr with ⟨h0, _⟩ | ⟨_, b, o', c', hv⟩
    · rw [h0] at hlen; simp at hlen; omega
    · simp only [Value.slice.injEq] at hv
      exact ⟨b, o', hv.1⟩
  have u1 : (0 : Int) ≤ (k : Int) := by omega
  have u2 : (k : Int) ≤ (n : Int) := by omega
  by_cases e : c = k
  · have e2 : n = k := by omega
    subst e2
    subst e
    refine ⟨some ⟨b, o, none⟩, 0, fun w' => by simp [go_sem, Tryd.underlying22], ?_, by omega, (fun h => by cases h), fun fb hf => hf⟩
    rw [Nat.sub_self, List.drop_eq_nil_of_le (by omega)]
    exact bs_nilH _ _ _
  · have u3 : (⟨b, o, none⟩ : Addr).add k = ⟨b, o + k, none⟩ := by unfold Addr.add; split <;> simp_all
    refine ⟨some ⟨b, o + k, none⟩, c - k, fun w' => by simp [go_sem, Tryd.underlying22, u2, e], ⟨_, c - k, by rw [List.length_drop, ← hlen], fun x hx => ?_, fun _ => ⟨b, o + k, rfl, fun i hi => ?_⟩⟩, by omega, (fun h => by cases h), fun fb hf => hf⟩
    · obtain ⟨j, hj, rfl⟩ := List.getElem_of_mem (List.mem_of_mem_drop hx)
      have := hlt j
      rwa [List.getD_eq_getElem?_getD, List.getElem?_eq_getElem hj] at this
    · rw [List.length_drop] at hi
      have h1 := h.cell (k + i) (by omega)
      rw [List.getD_eq_getElem?_getD, List.getElem?_drop, ← List.getD_eq_getElem?_getD, Nat.add_assoc]
      exact h1
theorem HashAt.set_size {w : World} {hb : Nat} {h c : List Nat} {size : Nat} (H : HashAt w hb h c size) (s : Nat) : HashAt (w.setCell ⟨hb, 72, none⟩ (.int .i64 (s : Int))) hb h c s := by
  have h1 := heap_set H.at_ 72 (.int .i64 s)
  refine ⟨?_, H.hl, H.cl, H.ho, H.co⟩
  rw [h1]
  have h2 : (u32s h).length = 8 := by rw [u32s_length, H.hl]
  have h3 : (u8s c).length = 64 := by simp [u8s, H.cl]
  unfold hcells
  rw [List.setIfInBounds_toArray, List.set_append_right _ _ (by omega), h2, List.set_append_right _ _ (by omega), h3]
  rfl
theorem chunk_slice (hb r : Nat) (hr : r < 64) (w : World) : (Instr.sliceAt 110 (.pointer (some ⟨hb, 8, none⟩)) (some (.int .i64 (r : Int))) none none).run Tryd.prog w = .ok (.slice (some ⟨hb, 8 + r, none⟩) (64 - r) (64 - r)) w := by
  have u1 : (r : Int) ≤ 64 := by omega
  have u2 : r ≤ 64 := by omega
  have u3 : (⟨hb, 8, none⟩ : Addr).add r = ⟨hb, 8 + r, none⟩ := by unfold Addr.add; split <;> simp_all
  have u4 : ¬ 64 = r := by omega
  simp [go_sem, Instr.sliceAt, Instr.slice, run_underlying Tryd.underlying110, u1, u4]

/-- what the loop of Write keeps -/
structure WrI (w wr : World) (hb : Nat) (KC SH m l : List Nat) (i n : Nat) (a' : Option Addr) (c' : Nat) : Prop where
  bs : Bs w (.slice a' (n - i) c') (l.drop i)
  cap : n - i ≤ c'
  off : Off hb (.slice a' (n - i) c')
  msg : MsgAt wr hb KC SH (m ++ l.take i)
  kept : Kept hb w wr

theorem WrI.next {w wr w2 : World} {hb : Nat} {KC SH m l : List Nat} {i n k : Nat} {a' a2 : Option Addr} {c' c2 : Nat} (h : WrI w wr hb KC SH m l i n a' c') (hb2 : Bs w (.slice a2 (n - i - k) c2) ((l.drop i).drop k)) (hc2 : n - i - k ≤ c2) (ho2 : Off hb (.slice a2 (n - i - k) c2))
    (hm : MsgAt w2 hb KC SH ((m ++ l.take i) ++ (l.drop i).take k)) (hk : Kept hb wr w2) : WrI w w2 hb KC SH m l (i + k) n a2 c2 := by
  refine ⟨?_, by omega, ?_, ?_, h.kept.trans hk⟩
  · rw [Nat.sub_add_eq, ← List.drop_drop]; exact hb2
  · rw [Nat.sub_add_eq]; exact ho2
  · rw [List.take_add, ← List.append_assoc]; exact hm
set_option maxRecDepth 100000 in
set_option maxHeartbeats 4000000 in
theorem Write_any (hb n c : Nat) (a : Option Addr) (KC SH m l : List Nat) (w : World) (M : MsgAt w hb KC SH m) (V : Vars w KC SH) (h3 : 3 ≤ hb) (hl : Bs w (.slice a n c) l) (hc : n ≤ c) (ho : Off hb (.slice a n c)) (hsz : m.length + n ≤ 1000000000) :
    Calls Tryd.prog 37 #[.pointer (some ⟨hb, 0, none⟩), .slice a n c] w fun e w' => e = .returned (.tuple #[]) ∧ MsgAt w' hb KC SH (m ++ l) ∧ Kept hb w w' := by
  have HLN := hid hl.len
  have HV := hid V
  have h0 : WrI w w hb KC SH m l 0 n a c := ⟨by rw [List.drop_zero, Nat.sub_zero]; exact hl, by omega, by rw [Nat.sub_zero]; exact ho, by rw [List.take_zero, List.append_nil]; exact M, Kept.refl _ _⟩
  have HI := hid h0
  clear M V hl ho h0
  go_enter Tryd.func37, Tryd.ntmps37
  go_wp2
  go_loopw [1] (fun bv wr => ∃ (i : Nat) (a' : Option Addr) (c' : Nat), i ≤ n ∧ bv = .slice a' (n - i) c' ∧ Hid (WrI w wr hb KC SH m l i n a' c')) (fun bv _ => slLen bv)
  case atStart => exact ⟨0, a, c, by omega, by rw [Nat.sub_zero], HI⟩
  case round =>
    clear HI
    obtain ⟨i, a', c', hi, rfl, HI⟩ := hrel
    obtain ⟨nn, hnn⟩ : ∃ nn, nn = n - i := ⟨_, rfl⟩
    rw [← hnn]
    by_cases h0 : 0 < nn
    · have hN : (0 : Int) < (nn : Int) := by omega
      obtain ⟨h, ch, H, e1, e2⟩ := HI.out.msg
      have hlt : (m ++ l.take i).length = m.length + i := by rw [List.length_append, List.length_take]; have := HLN.out; omega
      have hbs := HI.out.bs
      have hcap := HI.out.cap
      have hoff := HI.out.off
      rw [← hnn] at hbs hcap hoff
      generalize hm2 : m ++ l.take i = m2 at *
      obtain ⟨sz, hszz⟩ : ∃ sz, sz = m2.length := ⟨_, rfl⟩
      obtain ⟨r, hr⟩ : ∃ r, r = sz % 64 := ⟨_, rfl⟩
      obtain ⟨k, hk⟩ : ∃ k, k = Nat.min nn (64 - r) := ⟨_, rfl⟩
      have hr64 : r < 64 := by omega
      have hk1 : k ≤ nn := by rw [hk]; exact Nat.min_le_left _ _
      have hk2 : k ≤ 64 - r := by rw [hk]; exact Nat.min_le_right _ _
      have hk3 : 1 ≤ k := by rw [hk]; exact Nat.le_min.2 ⟨h0, by omega⟩
      have hk4 : k = nn ∨ k = 64 - r := by rw [hk]; rcases Nat.le_total nn (64 - r) with h | h; exact .inl (Nat.min_eq_left h); exact .inr (Nat.min_eq_right h)
      have hbr := hbs.kept HI.out.kept hoff
      obtain ⟨a2, c2, hs2, hb2, hcap2, hnil2, hoff2⟩ := bs_from hbs (by omega) hcap k hk1
      have hdl : (l.drop i).length = nn := by rw [List.length_drop, hnn]; have := HLN.out; omega
      rw [← hszz] at H
      have c72 := H.size_
      have hrem : ((sz : Int)).tmod 64 = (r : Int) := by rw [Int.tmod_eq_emod_of_nonneg (by omega)]; omega
      have hch := chunk_slice hb r hr64
      have HH := hid H
      have HBR := hid hbr
      have HE1 := hid (fun (_ : Unit) => e1)
      have HE2 := hid e2
      have HHB := hid hb2
      have HKK := hid hk
      have HO2 := hid hoff2
      have HSZ := hid hszz
      have HRR := hid hr
      have HNN := hid hnn
      have HOF := hid hoff
      have HDL := hid hdl
      have HM2 := hid (fun (_ : Unit) => hm2)
      have hrw : IntKind.i64.wrap (r : Int) = (r : Int) := by rw [IntKind.wrap_i64]; omega
      have hsum : IntKind.i64.wrap ((sz : Int) + (k : Int)) = ((sz + k : Nat) : Int) := by rw [IntKind.wrap_i64]; omega
      have hsz3 : sz + k ≤ 1000000000 := by omega
      clear H hbr e1 e2 hb2 hk hoff2 hszz hr hnn hm2 hoff hbs hdl hlt
      obtain ⟨sk, hsk⟩ : ∃ sk, sk = sz + k := ⟨_, rfl⟩
      rw [← hsk] at hsum hsz3
      have HSK := hid hsk
      clear hsk
      go_wp2
      go_region_held3 (fun w' => w'.cell? ⟨hb, 72, none⟩ = some (.int .i64 (sz : Int)))
        (first | exact HH.out.size_ | exact H5.out.size_)
        (first
          | (refine step_copy_hash (by rfl) (.tmp 18) (.tmp 19) (by rfl) hb r sz nn k h ch (HH.out.same rfl) hr64 (by rfl) a' c' (by rfl) (l.drop i) (HBR.out.drewN 1) h0 HKK.out ?_
             intro w5 hH5 hk5
             have H5 := hid hH5
             have K5 := hid hk5))
      all_goals
        have c73 := H5.out.size_
        have f73 := H5.out.free 72
        have H6 := hid (H5.out.set_size sk)
        have K6 := hid ((((Kept.refl hb wr).drewN 1).trans K5.out).setCell (p := ⟨hb, 72, none⟩) rfl (.int .i64 (sk : Int)))
        have V6 := hid (HV.out.kept (HI.out.kept.trans K6.out) h3)
        have hlk : ((l.drop i).take k).length = k := by rw [List.length_take, HDL.out]; omega
        have hskl : sk = (m2 ++ (l.drop i).take k).length := by rw [List.length_append, hlk, ← HSZ.out]; exact HSK.out
        have HKL := hid hlk
        have HSKL := hid hskl
        clear hlk hskl c72
        by_cases hfull : r + k = 64
        · have t1 : ((sk : Int)).tmod 64 = 0 := by have h1 := HSK.out; have h2 := HRR.out; rw [Int.tmod_eq_emod_of_nonneg (by omega)]; omega
          go_wp2_with fail
          refine (compress_any hb sk h _ KC SH _ H6.out V6.out h3).mono ?_
          rintro e w8 ⟨rfl, hH8, hk8⟩
          have HM8 := hid (show MsgAt w8 hb KC SH (m2 ++ (l.drop i).take k) from msg_full (h := h) HH.out.cl (HE1.out ()) HE2.out (by rw [← HSZ.out, ← HRR.out, HKL.out]; exact hfull) (by rw [← HSZ.out, ← HRR.out, ← HSKL.out]; exact hH8))
          have HWN := hid (show WrI w w8 hb KC SH m l (i + k) n a2 c2 from HI.out.next (by rw [← HNN.out]; exact HHB.out) (by rw [← HNN.out]; exact hcap2) (by rw [← HNN.out]; exact HO2.out hb HOF.out) (by rw [HM2.out ()]; exact HM8.out) (K6.out.trans hk8))
          have hnx : nn - k = n - (i + k) := by have := HNN.out; omega
          have hik : i + k ≤ n := by have := HNN.out; omega
          have hms : slLen (.slice a2 (n - (i + k)) c2) < nn := by show n - (i + k) < nn; have := HNN.out; omega
          clear hH8 hk8
          go_wp2
          exact ⟨⟨i + k, a2, c2, hik, rfl, HWN⟩, hms⟩
        · have hlt64 : r + k < 64 := by omega
          have t1 : ((sk : Int)).tmod 64 = ((r + k : Nat) : Int) := by have h1 := HSK.out; have h2 := HRR.out; rw [Int.tmod_eq_emod_of_nonneg (by omega)]; omega
          obtain ⟨rk, hrk⟩ : ∃ rk, rk = r + k := ⟨_, rfl⟩
          rw [← hrk] at t1
          have t2 : IntKind.i64.wrap (rk : Int) = (rk : Int) := by rw [IntKind.wrap_i64]; omega
          have t3 : ((rk : Int) == 0) = false := by simp; omega
          have HM8 := hid (fun w8 (hH8 : HashAt w8 hb h (putL ch r ((l.drop i).take k)) sk) => (show MsgAt w8 hb KC SH (m2 ++ (l.drop i).take k) from msg_part (h := h) (by rw [← HSZ.out, ← HRR.out, ← HSKL.out]; exact hH8) HH.out.cl (HE1.out ()) HE2.out (by rw [← HSZ.out, ← HRR.out, HKL.out]; exact hlt64)))
          have HWN := hid (show WrI w _ hb KC SH m l (i + k) n a2 c2 from HI.out.next (by rw [← HNN.out]; exact HHB.out) (by rw [← HNN.out]; exact hcap2) (by rw [← HNN.out]; exact HO2.out hb HOF.out) (by rw [HM2.out ()]; exact HM8.out _ H6.out) K6.out)
          have hnx : nn - k = n - (i + k) := by have := HNN.out; omega
          have hik : i + k ≤ n := by have := HNN.out; omega
          have hms : slLen (.slice a2 (n - (i + k)) c2) < nn := by show n - (i + k) < nn; have := HNN.out; omega
          clear hrk
          go_wp2
          exact ⟨⟨i + k, a2, c2, hik, rfl, HWN⟩, hms⟩
    · have hn0 : nn = 0 := by omega
      have hin : i = n := by omega
      have hfin := HI.out.msg
      rw [hin, List.take_of_length_le (by have := HLN.out; omega)] at hfin
      have hkk := HI.out.kept
      clear hnn
      subst hn0
      go_wp2
      go_end0
      exact ⟨rfl, hfin, hkk⟩
theorem Write_gen (hb n c : Nat) (a : Option Addr) (KC SH m l : List Nat) (w : World) (M : MsgAt w hb KC SH m) (V : Vars w KC SH) (h3 : 3 ≤ hb) (hl : Bs w (.slice a n c) l) (hc : n ≤ c) (ho : 0 < n → Off hb (.slice a n c)) (hsz : m.length + n ≤ 1000000000) :
    Calls Tryd.prog 37 #[.pointer (some ⟨hb, 0, none⟩), .slice a n c] w fun e w' => e = .returned (.tuple #[]) ∧ MsgAt w' hb KC SH (m ++ l) ∧ Kept hb w w' := by
  by_cases h0 : 0 < n
  · exact Write_any hb n c a KC SH m l w M V h3 hl hc (ho h0) hsz
  · obtain rfl : n = 0 := by omega
    have hl0 : l = [] := List.eq_nil_of_length_eq_zero hl.len.symm
    subst hl0
    have HM := hid M
    clear M V hl
    go_enter Tryd.func37, Tryd.ntmps37
    go_wp2
    go_loop [1] (fun bv => bv = .slice a 0 c) (fun bv => slLen bv)
    case atStart => rfl
    case round =>
      obtain rfl := hrel
      go_wp2
      go_end0
      exact ⟨rfl, by simpa using HM.out, Kept.refl _ _⟩
end Go.Proofs.YtehjikogdaclgaaDoor
