/-
  What a Hash holds of a message, and a copy of bytes into its chunk.
-/
import Derived.Test.YteaidpbopgjleaaDoorCmp
import Derived.Test.YteaidpbopgjleaaDoorBuf
import Derived.Deep.RegionHeld3
namespace Go.Proofs.YteaidpbopgjleaaDoor
open Go Go.RowKit
set_option linter.unusedVariables false

theorem wj_congr {c d : Nat → Nat} (h : ∀ j, j < 64 → c j = d j) (i : Nat) (hi : i < 16) : ∀ j, j ≤ 4 → wj c i j = wj d i j
  | 0, _ => rfl
  | j + 1, hj => by
    show (wj c i j * 256 % 4294967296) ||| c (4 * i + j) = (wj d i j * 256 % 4294967296) ||| d (4 * i + j)
    rw [wj_congr h i hi j (by omega), h _ (by omega)]
theorem schL_congr {c d : Nat → Nat} (h : ∀ j, j < 64 → c j = d j) : ∀ k, schL c k = schL d k
  | 0 => by
    show ((List.range 16).map fun i => wj c i 4) = ((List.range 16).map fun i => wj d i 4)
    exact List.map_congr_left fun i hi => wj_congr h i (List.mem_range.1 hi) 4 (Nat.le_refl _)
  | k + 1 => by
    show schL c k ++ [nx (schL c k) (16 + k)] = schL d k ++ [nx (schL d k) (16 + k)]
    rw [schL_congr h k]
theorem cmp_congr {c d : Nat → Nat} (K : Nat → Nat) (x : List Nat) (h : ∀ j, j < 64 → c j = d j) : cmp K x c = cmp K x d := by
  unfold cmp cmpTo
  rw [schL_congr h 48]
theorem cmp_length (K : Nat → Nat) (h : List Nat) (c : Nat → Nat) : (cmp K h c).length = 8 := cmpTo_length _ _ _ _
/-- the state after n chunks of a message -/
def hsK (K : Nat → Nat) (SH m : List Nat) : Nat → List Nat | 0 => SH | n + 1 => cmp K (hsK K SH m n) (fun j => m.getD (64 * n + j) 0)
theorem getD_app (m b : List Nat) (i : Nat) : (m ++ b).getD i 0 = if i < m.length then m.getD i 0 else b.getD (i - m.length) 0 := by
  rw [List.getD_eq_getElem?_getD]
  by_cases h : i < m.length
  · rw [if_pos h, List.getElem?_append_left h, ← List.getD_eq_getElem?_getD]
  · rw [if_neg h, List.getElem?_append_right (by omega), ← List.getD_eq_getElem?_getD]
theorem hsK_app (K : Nat → Nat) (SH m b : List Nat) : ∀ n, 64 * n ≤ m.length → hsK K SH (m ++ b) n = hsK K SH m n
  | 0, _ => rfl
  | n + 1, h => by
    show cmp K (hsK K SH (m ++ b) n) _ = cmp K (hsK K SH m n) _
    rw [hsK_app K SH m b n (by omega)]
    exact cmp_congr K _ fun j hj => by rw [getD_app, if_pos (by omega)]
/-- bytes laid into the chunk from r on -/
def putL (c : List Nat) (r : Nat) (l : List Nat) : List Nat := c.take r ++ l ++ c.drop (r + l.length)
theorem putL_length {c l : List Nat} {r : Nat} (hc : c.length = 64) (h : r + l.length ≤ 64) : (putL c r l).length = 64 := by
  unfold putL
  simp [hc]
  omega
theorem putL_getD {c l : List Nat} {r : Nat} (hc : c.length = 64) (h : r + l.length ≤ 64) (j : Nat) : (putL c r l).getD j 0 = if j < r then c.getD j 0 else if j < r + l.length then l.getD (j - r) 0 else c.getD j 0 := by
  unfold putL
  have h1 : (c.take r).length = r := by rw [List.length_take]; omega
  rw [List.append_assoc, getD_app, h1]
  by_cases hj : j < r
  · rw [if_pos hj, if_pos hj, List.getD_eq_getElem?_getD, List.getElem?_take_of_lt hj, ← List.getD_eq_getElem?_getD]
  · rw [if_neg hj, if_neg hj, getD_app]
    by_cases h2 : j < r + l.length
    · rw [if_pos (by omega), if_pos h2]
    · rw [if_neg (by omega), if_neg h2, List.getD_eq_getElem?_getD, List.getElem?_drop, ← List.getD_eq_getElem?_getD]
      congr 1
      omega
theorem hcells_put {h c l : List Nat} {size r : Nat} (hh : h.length = 8) (hc : c.length = 64) (hr : r + l.length ≤ 64) :
    (hcells h c size).take (8 + r) ++ u8s l ++ (hcells h c size).drop (8 + r + (u8s l).length) = hcells h (putL c r l) size := by
  have h1 : (u32s h).length = 8 := by rw [u32s_length, hh]
  have h2 : (u8s c).length = 64 := by simp [u8s, hc]
  have h3 : (u8s l).length = l.length := by simp [u8s]
  have e1 : (hcells h c size).take (8 + r) = u32s h ++ (u8s c).take r := by
    unfold hcells
    rw [List.take_append, h1, List.take_of_length_le (by omega), Nat.add_sub_cancel_left, List.take_append_of_le_length (by omega)]
  have e2 : (hcells h c size).drop (8 + r + (u8s l).length) = (u8s c).drop (r + l.length) ++ [.int .i64 (size : Int)] := by
    unfold hcells
    rw [h3, List.drop_append, h1, List.drop_eq_nil_of_le (by omega), List.nil_append, show 8 + r + l.length - 8 = r + l.length from by omega, List.drop_append_of_le_length (by omega)]
  rw [e1, e2]
  unfold hcells putL
  simp [u8s, List.append_assoc]
/-- the Hash holds the message -/
def MsgAt (w : World) (hb : Nat) (KC SH m : List Nat) : Prop := ∃ h c, HashAt w hb h c m.length ∧ h = hsK (fun i => KC.getD i 0) SH m (m.length / 64) ∧ ∀ j, j < m.length % 64 → c.getD j 0 = m.getD (64 * (m.length / 64) + j) 0
theorem MsgAt.same {w w' : World} {hb : Nat} {KC SH m : List Nat} (M : MsgAt w hb KC SH m) (hs : w'.heap[hb]? = w.heap[hb]?) : MsgAt w' hb KC SH m := by
  obtain ⟨h, c, H, e1, e2⟩ := M
  exact ⟨h, c, H.same hs, e1, e2⟩
/-- more bytes that do not fill the chunk -/
theorem msg_part {w : World} {hb : Nat} {KC SH m l h c : List Nat} (H : HashAt w hb h (putL c (m.length % 64) l) (m ++ l).length) (hc : c.length = 64) (e1 : h = hsK (fun i => KC.getD i 0) SH m (m.length / 64)) (e2 : ∀ j, j < m.length % 64 → c.getD j 0 = m.getD (64 * (m.length / 64) + j) 0) (hl : m.length % 64 + l.length < 64) : MsgAt w hb KC SH (m ++ l) := by
  have hd : (m ++ l).length / 64 = m.length / 64 := by rw [List.length_append]; omega
  have hm : (m ++ l).length % 64 = m.length % 64 + l.length := by rw [List.length_append]; omega
  refine ⟨h, _, H, ?_, fun j hj => ?_⟩
  · rw [hd, hsK_app _ _ _ _ _ (by omega)]
    exact e1
  · rw [hm] at hj
    rw [putL_getD hc (by omega), hd, getD_app]
    by_cases h1 : j < m.length % 64
    · rw [if_pos h1, if_pos (by omega)]
      exact e2 j h1
    · rw [if_neg h1, if_pos hj, if_neg (by omega)]
      congr 1
      omega
/-- more bytes that fill the chunk, and the chunk taken in -/
theorem msg_full {w : World} {hb : Nat} {KC SH m l h c : List Nat} (hc : c.length = 64) (e1 : h = hsK (fun i => KC.getD i 0) SH m (m.length / 64)) (e2 : ∀ j, j < m.length % 64 → c.getD j 0 = m.getD (64 * (m.length / 64) + j) 0) (hl : m.length % 64 + l.length = 64)
    (H : HashAt w hb (cmp (fun i => KC.getD i 0) h (fun j => (putL c (m.length % 64) l).getD j 0)) (putL c (m.length % 64) l) (m ++ l).length) : MsgAt w hb KC SH (m ++ l) := by
  have hd : (m ++ l).length / 64 = m.length / 64 + 1 := by rw [List.length_append]; omega
  have hm : (m ++ l).length % 64 = 0 := by rw [List.length_append]; omega
  refine ⟨_, _, H, ?_, fun j hj => by omega⟩
  rw [hd]
  show _ = cmp _ (hsK _ SH (m ++ l) (m.length / 64)) _
  rw [hsK_app _ _ _ _ _ (by omega), ← e1]
  refine cmp_congr _ _ fun j hj => ?_
  rw [putL_getD hc (by omega), getD_app]
  by_cases h1 : j < m.length % 64
  · rw [if_pos h1, if_pos (by omega)]
    exact e2 j h1
  · rw [if_neg h1, if_pos (by omega), if_neg (by omega)]
    congr 1
    omega
theorem size5' : (Tryd.prog.info? 5).map (·.size) = some 1 := by kernel_rfl
theorem u8s_oneH (l : List Nat) : ∀ v ∈ u8s l, v.oneCell' = true := by
  intro v hv
  unfold u8s at hv
  obtain ⟨y, _, rfl⟩ := List.mem_map.1 hv
  rfl
/-- copy into the chunk -/
theorem step_copy_hash {ops : Array Oper} {o : Oper} {a : Act} {w : World} {K : Act → World → Prop} {Q : Exit → Act → World → Prop} {E : Prop} (hgd : o.guard = none) (d s : Operand)
    (ho : o.op = .call { callee := .builtin .copy, args := #[d, s], argTypes := #[26, 26] }) (hb r size n k : Nat) (h c : List Nat) (H : HashAt w hb h c size) (hr : r < 64)
    (hd : a.eval d = .slice (some ⟨hb, 8 + r, none⟩) (64 - r) (64 - r)) (sa : Option Addr) (sCap : Nat) (hs : a.eval s = .slice sa n sCap) (l : List Nat) (hbs : Bs w (.slice sa n sCap) l) (hn : 1 ≤ n) (hk : k = Nat.min n (64 - r))
    (hK : ∀ w', HashAt w' hb h (putL c r (l.take k)) size → Kept hb w w' → K (a.put o.dst (goInt (k : Nat))) w') :
    if Region.wanted o (yielded ops a.tmps) = true then Oper.wp Tryd.prog o a w K Q else E := by
  have hw : Region.wanted o (yielded ops a.tmps) = true := by simp [Region.wanted, hgd]
  rw [if_pos hw]
  have hlen := hbs.len
  have hk1 : k ≤ n := by rw [hk]; exact Nat.min_le_left _ _
  have hk2 : k ≤ 64 - r := by rw [hk]; exact Nat.min_le_right _ _
  have hne : l ≠ [] := by intro e; rw [e] at hlen; simp at hlen; omega
  obtain ⟨b, o', rfl⟩ : ∃ b o', sa = some ⟨b, o', none⟩ := by
    rcases hbs.addr with ⟨h0, _⟩ | ⟨_, b, o', c', hv⟩
    · exact absurd h0 hne
    · simp only [Value.slice.injEq] at hv
      exact ⟨b, o', hv.1⟩
  have hlk : (l.take k).length = k := by rw [List.length_take]; omega
  have hl2 : (u8s (l.take k)).length = k := by simp [u8s]; omega
  have hsrc : ∀ j v, (u8s (l.take k))[j]? = some v → w.cell? ((⟨b, o', none⟩ : Addr).add j) = some v := fun j v hj => by
    have hjl : j < k := by have := (List.getElem?_eq_some_iff.1 hj).1; omega
    have e : (⟨b, o', none⟩ : Addr).add j = ⟨b, o' + j, none⟩ := by unfold Addr.add; split <;> simp_all
    rw [e, hbs.cell j (by omega), ← hj]
    simp [u8s, hjl, List.getElem?_eq_getElem (show j < l.length by omega)]
  have hcl : (hcells h c size).length = 73 := by simp [hcells, u32s_length, u8s, H.hl, H.cl]
  have hrun := run_copy_row (P := Tryd.prog) w 26 26 o.type 5 hb (8 + r) (64 - r) (64 - r) ⟨b, o', none⟩ n sCap (hcells h c size).toArray 82 (u8s (l.take k)) Tryd.underlying26 size5' H.at_ (by rw [hl2]; exact hk.trans rfl) hsrc (by rw [hl2, List.size_toArray, hcl]; omega) (u8s_oneH _)
  rw [List.toList_toArray, hcells_put H.hl H.cl (by rw [hlk]; omega), hl2] at hrun
  unfold Oper.wp
  simp [execOp, ho, resolve, invoke, builtin, hd, hs, hrun, Result.andThen]
  refine hK _ ⟨setRow_heap w hb _ _ _ _ H.at_, H.hl, putL_length H.cl (by rw [hlk]; omega), H.ho, fun i => ?_⟩ ⟨rfl, rfl, rfl, by simp [World.setRow], fun k _ hk => setRow_other w hb k _ hk⟩
  rw [putL_getD H.cl (by rw [hlk]; omega)]
  split
  · exact H.co i
  · split
    · have := hbs.lt (i - r)
      rw [List.getD_eq_getElem?_getD, List.getElem?_take_of_lt (by omega), ← List.getD_eq_getElem?_getD]
      exact this
    · exact H.co i
end Go.Proofs.YteaidpbopgjleaaDoor
