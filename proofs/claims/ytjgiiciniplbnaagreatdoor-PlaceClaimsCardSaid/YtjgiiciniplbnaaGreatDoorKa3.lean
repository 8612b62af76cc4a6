/-
  What a Hash holds of a message, and a copy of bytes into its chunk. · Write: bytes taken into a Hash. · pad: the last chunk completed. · Sum: the digest of the message so far. · NewHash, SHA256. · Values: SHA-256 of abc, its constants. · What the condition of a row of chapter 2 gives: the two listed variables. · The order of ranks: bytes are compared, then numbers. · Manifests: validCounts, manifestSize, validNumbers, CheckManifest. · More: a made row with room, and appending bytes to a row of one's own. · Writer: NewWriter, fits. · Writer: number. · Writer: U8, U16, U32, U64, Raw. · Writer: Raw. · bytes.Clone, Writer.Bytes, Writer.Len.
-/
import Derived.Test.YtjgiiciniplbnaaGreatDoorKa1
import Derived.Test.YtjgiiciniplbnaaGreatDoorKa2
import Derived.Deep.RegionHeld3
import Derived.Test.YtjgiiciniplbnaaGreatDoorRows
import Derived.WalkKit
import Derived.ProofKit
import Derived.LaidMore
import Derived.OpenShut
import Derived.Stop.Joined
import Derived.Stop.LaidErr
import Derived.Lib.LaidTab
import Derived.Lib.Bytealg
import Derived.Lib.Small
import Derived.Lib.BytesEntry
import Derived.Shelf.SlSortCmp.WholeK
import Derived.Shelf.SlSortCmp.NoneTotal
import Derived.Deep.DeepCutAuto
import Derived.Deep.AppendLies
import Derived.BigQuiet
import Derived.Deep.RegionLaw
import Derived.Maps.AppendAt
import Derived.Lib.LazyBuf
namespace Go.Proofs.YtjgiiciniplbnaaGreatDoor
open Go Go.RowKit
set_option linter.unusedVariables false

theorem wj_congr {c d : Nat → Nat} (h : ∀ j, j < 64 → c j = d j) (i : Nat) (hi : i < 16) : ∀ j, j ≤ 4 → wj c i j = wj d i j
  | 0, _ => rfl
  | j + 1, hj => by
    show (wj c i j * 256 % 4294967296) ||| c (4 * i + j) = (wj d i j * 256 % 4294967296) ||| d (4 * i + j)
    rw [wj_congr h i hi j (by omega), h _ (by omega)]
theorem schL_congr {c d : Nat → Nat} (h : ∀ j, j < 64 → c j = d j) : ∀ k, schL c k = schL d k
  | 0 => by
    show ((List.range 16).map fun i => wj c i 4) = ((List.range 16).map fun i => wj d i 4)
    exact List.map_congr_left fun i hi => wj_congr h i (List.mem_range.1 hi) 4 (Nat.le_refl _)
  | k + 1 => by
    show schL c k ++ [nx (schL c k) (16 + k)] = schL d k ++ [nx (schL d k) (16 + k)]
    rw [schL_congr h k]
theorem cmp_congr {c d : Nat → Nat} (K : Nat → Nat) (x : List Nat) (h : ∀ j, j < 64 → c j = d j) : cmp K x c = cmp K x d := by
  unfold cmp cmpTo
  rw [schL_congr h 48]
theorem cmp_length (K : Nat → Nat) (h : List Nat) (c : Nat → Nat) : (cmp K h c).length = 8 := cmpTo_length _ _ _ _
/-- the state after n chunks of a message -/
def hsK (K : Nat → Nat) (SH m : List Nat) : Nat → List Nat | 0 => SH | n + 1 => cmp K (hsK K SH m n) (fun j => m.getD (64 * n + j) 0)
theorem getD_app (m b : List Nat) (i : Nat) : (m ++ b).getD i 0 = if i < m.length then m.getD i 0 else b.getD (i - m.length) 0 := by
  rw [List.getD_eq_getElem?_getD]
  by_cases h : i < m.length
  · rw [if_pos h, List.getElem?_append_left h, ← List.getD_eq_getElem?_getD]
  · rw [if_neg h, List.getElem?_append_right (by omega), ← List.getD_eq_getElem?_getD]
theorem hsK_app (K : Nat → Nat) (SH m b : List Nat) : ∀ n, 64 * n ≤ m.length → hsK K SH (m ++ b) n = hsK K SH m n
  | 0, _ => rfl
  | n + 1, h => by
    show cmp K (hsK K SH (m ++ b) n) _ = cmp K (hsK K SH m n) _
    rw [hsK_app K SH m b n (by omega)]
    exact cmp_congr K _ fun j hj => by rw [getD_app, if_pos (by omega)]
/-- bytes laid into the chunk from r on -/
def putL (c : List Nat) (r : Nat) (l : List Nat) : List Nat := c.take r ++ l ++ c.drop (r + l.length)
theorem putL_length {c l : List Nat} {r : Nat} (hc : c.length = 64) (h : r + l.length ≤ 64) : (putL c r l).length = 64 := by
  unfold putL
  simp [hc]
  omega
theorem putL_getD {c l : List Nat} {r : Nat} (hc : c.length = 64) (h : r + l.length ≤ 64) (j : Nat) : (putL c r l).getD j 0 = if j < r then c.getD j 0 else if j < r + l.length then l.getD (j - r) 0 else c.getD j 0 := by
  unfold putL
  have h1 : (c.take r).length = r := by rw [List.length_take]; omega
  rw [List.append_assoc, getD_app, h1]
  by_cases hj : j < r
  · rw [if_pos hj, if_pos hj, List.getD_eq_getElem?_getD, List.getElem?_take_of_lt hj, ← List.getD_eq_getElem?_getD]
  · rw [if_neg hj, if_neg hj, getD_app]
    by_cases h2 : j < r + l.length
    · rw [if_pos (by omega), if_pos h2]
    · rw [if_neg (by omega), if_neg h2, List.getD_eq_getElem?_getD, List.getElem?_drop, ← List.getD_eq_getElem?_getD]
      congr 1
      omega
theorem hcells_put {h c l : List Nat} {size r : Nat} (hh : h.length = 8) (hc : c.length = 64) (hr : r + l.length ≤ 64) :
    (hcells h c size).take (8 + r) ++ u8s l ++ (hcells h c size).drop (8 + r + (u8s l).length) = hcells h (putL c r l) size := by
  have h1 : (u32s h).length = 8 := by rw [u32s_length, hh]
  have h2 : (u8s c).length = 64 := by simp [u8s, hc]
  have h3 : (u8s l).length = l.length := by simp [u8s]
  have e1 : (hcells h c size).take (8 + r) = u32s h ++ (u8s c).take r := by
    unfold hcells
    rw [List.take_append, h1, List.take_of_length_le (by omega), Nat.add_sub_cancel_left, List.take_append_of_le_length (by omega)]
  have e2 : (hcells h c size).drop (8 + r + (u8s l).length) = (u8s c).drop (r + l.length) ++ [.int .i64 (size : Int)] := by
    unfold hcells
    rw [h3, List.drop_append, h1, List.drop_eq_nil_of_le (by omega), List.nil_append, show 8 + r + l.length - 8 = r + l.length from by omega, List.drop_append_of_le_length (by omega)]
  rw [e1, e2]
  unfold hcells putL
  simp [u8s, List.append_assoc]
/-- the Hash holds the message -/
def MsgAt (w : World) (hb : Nat) (KC SH m : List Nat) : Prop := ∃ h c, HashAt w hb h c m.length ∧ h = hsK (fun i => KC.getD i 0) SH m (m.length / 64) ∧ ∀ j, j < m.length % 64 → c.getD j 0 = m.getD (64 * (m.length / 64) + j) 0
theorem MsgAt.same {w w' : World} {hb : Nat} {KC SH m : List Nat} (M : MsgAt w hb KC SH m) (hs : w'.heap[hb]? = w.heap[hb]?) : MsgAt w' hb KC SH m := by
  obtain ⟨h, c, H, e1, e2⟩ := M
  exact ⟨h, c, H.same hs, e1, e2⟩
/-- more bytes that do not fill the chunk -/
theorem msg_part {w : World} {hb : Nat} {KC SH m l h c : List Nat} (H : HashAt w hb h (putL c (m.length % 64) l) (m ++ l).length) (hc : c.length = 64) (e1 : h = hsK (fun i => KC.getD i 0) SH m (m.length / 64)) (e2 : ∀ j, j < m.length % 64 → c.getD j 0 = m.getD (64 * (m.length / 64) + j) 0) (hl : m.length % 64 + l.length < 64) : MsgAt w hb KC SH (m ++ l) := by
  have hd : (m ++ l).length / 64 = m.length / 64 := by rw [List.length_append]; omega
  have hm : (m ++ l).length % 64 = m.length % 64 + l.length := by rw [List.length_append]; omega
  refine ⟨h, _, H, ?_, fun j hj => ?_⟩
  · rw [hd, hsK_app _ _ _ _ _ (by omega)]
    exact e1
  · rw [hm] at hj
    rw [putL_getD hc (by omega), hd, getD_app]
    by_cases h1 : j < m.length % 64
    · rw [if_pos h1, if_pos (by omega)]
      exact e2 j h1
    · rw [if_neg h1, if_pos hj, if_neg (by omega)]
      congr 1
      omega
/-- more bytes that fill the chunk, and the chunk taken in -/
theorem msg_full {w : World} {hb : Nat} {KC SH m l h c : List Nat} (hc : c.length = 64) (e1 : h = hsK (fun i => KC.getD i 0) SH m (m.length / 64)) (e2 : ∀ j, j < m.length % 64 → c.getD j 0 = m.getD (64 * (m.length / 64) + j) 0) (hl : m.length % 64 + l.length = 64)
    (H : HashAt w hb (cmp (fun i => KC.getD i 0) h (fun j => (putL c (m.length % 64) l).getD j 0)) (putL c (m.length % 64) l) (m ++ l).length) : MsgAt w hb KC SH (m ++ l) := by
  have hd : (m ++ l).length / 64 = m.length / 64 + 1 := by rw [List.length_append]; omega
  have hm : (m ++ l).length % 64 = 0 := by rw [List.length_append]; omega
  refine ⟨_, _, H, ?_, fun j hj => by omega⟩
  rw [hd]
  show _ = cmp _ (hsK _ SH (m ++ l) (m.length / 64)) _
  rw [hsK_app _ _ _ _ _ (by omega), ← e1]
  refine cmp_congr _ _ fun j hj => ?_
  rw [putL_getD hc (by omega), getD_app]
  by_cases h1 : j < m.length % 64
  · rw [if_pos h1, if_pos (by omega)]
    exact e2 j h1
  · rw [if_neg h1, if_pos (by omega), if_neg (by omega)]
    congr 1
    omega
theorem size5' : (Tryz.prog.info? 5).map (·.size) = some 1 := by kernel_rfl
theorem u8s_oneH (l : List Nat) : ∀ v ∈ u8s l, v.oneCell' = true := by
  intro v hv
  unfold u8s at hv
  obtain ⟨y, _, rfl⟩ := List.mem_map.1 hv
  rfl
/-- copy into the chunk -/
theorem step_copy_hash {ops : Array Oper} {o : Oper} {a : Act} {w : World} {K : Act → World → Prop} {Q : Exit → Act → World → Prop} {E : Prop} (hgd : o.guard = none) (d s : Operand)
    (ho : o.op = .call { callee := .builtin .copy, args := #[d, s], argTypes := #[66, 66] }) (hb r size n k : Nat) (h c : List Nat) (H : HashAt w hb h c size) (hr : r < 64)
    (hd : a.eval d = .slice (some ⟨hb, 8 + r, none⟩) (64 - r) (64 - r)) (sa : Option Addr) (sCap : Nat) (hs : a.eval s = .slice sa n sCap) (l : List Nat) (hbs : Bs w (.slice sa n sCap) l) (hn : 1 ≤ n) (hk : k = Nat.min n (64 - r))
    (hK : ∀ w', HashAt w' hb h (putL c r (l.take k)) size → Kept hb w w' → K (a.put o.dst (goInt (k : Nat))) w') :
    if Region.wanted o (yielded ops a.tmps) = true then Oper.wp Tryz.prog o a w K Q else E := by
  have hw : Region.wanted o (yielded ops a.tmps) = true := by simp [Region.wanted, hgd]
  rw [if_pos hw]
  have hlen := hbs.len
  have hk1 : k ≤ n := by rw [hk]; exact Nat.min_le_left _ _
  have hk2 : k ≤ 64 - r := by rw [hk]; exact Nat.min_le_right _ _
  have hne : l ≠ [] := by intro e; rw [e] at hlen; simp at hlen; omega
  obtain ⟨b, o', rfl⟩ : ∃ b o', sa = some ⟨b, o', none⟩ := by
    rcases hbs.addr with ⟨h0, _⟩ | ⟨_, b, o', c', hv⟩
    · exact absurd h0 hne
    · simp only [Value.slice.injEq] at hv
      exact ⟨b, o', hv.1⟩
  have hlk : (l.take k).length = k := by rw [List.length_take]; omega
  have hl2 : (u8s (l.take k)).length = k := by simp [u8s]; omega
  have hsrc : ∀ j v, (u8s (l.take k))[j]? = some v → w.cell? ((⟨b, o', none⟩ : Addr).add j) = some v := fun j v hj => by
    have hjl : j < k := by have := (List.getElem?_eq_some_iff.1 hj).1; omega
    have e : (⟨b, o', none⟩ : Addr).add j = ⟨b, o' + j, none⟩ := by unfold Addr.add; split <;> simp_all
    rw [e, hbs.cell j (by omega), ← hj]
    simp [u8s, hjl, List.getElem?_eq_getElem (show j < l.length by omega)]
  have hcl : (hcells h c size).length = 73 := by simp [hcells, u32s_length, u8s, H.hl, H.cl]
  have hrun := run_copy_row (P := Tryz.prog) w 66 66 o.type 5 hb (8 + r) (64 - r) (64 - r) ⟨b, o', none⟩ n sCap (hcells h c size).toArray 210 (u8s (l.take k)) Tryz.underlying66 size5' H.at_ (by rw [hl2]; exact hk.trans rfl) hsrc (by rw [hl2, List.size_toArray, hcl]; omega) (u8s_oneH _)
  rw [List.toList_toArray, hcells_put H.hl H.cl (by rw [hlk]; omega), hl2] at hrun
  unfold Oper.wp
  simp [execOp, ho, resolve, invoke, builtin, hd, hs, hrun, Result.andThen]
  refine hK _ ⟨setRow_heap w hb _ _ _ _ H.at_, H.hl, putL_length H.cl (by rw [hlk]; omega), H.ho, fun i => ?_⟩ ⟨rfl, rfl, rfl, by simp [World.setRow], fun k _ hk => setRow_other w hb k _ hk⟩
  rw [putL_getD H.cl (by rw [hlk]; omega)]
  split
  · exact H.co i
  · split
    · have := hbs.lt (i - r)
      rw [List.getD_eq_getElem?_getD, List.getElem?_take_of_lt (by omega), ← List.getD_eq_getElem?_getD]
      exact this
    · exact H.co i
end Go.Proofs.YtjgiiciniplbnaaGreatDoor

namespace Go.Proofs.YtjgiiciniplbnaaGreatDoor
open Go Go.RowKit
set_option linter.unusedVariables false

def slLen : Value → Nat | .slice _ n _ => n | _ => 0
theorem bs_nilH (w : World) (a : Option Addr) (c : Nat) : Bs w (.slice a 0 c) [] := ⟨a, c, rfl, fun n hn => absurd hn List.not_mem_nil, fun e => absurd rfl e⟩
/-- what follows the first k bytes -/
theorem bs_from {w : World} {a : Option Addr} {n c : Nat} {l : List Nat} (h : Bs w (.slice a n c) l) (hn : 1 ≤ n) (hc : n ≤ c) (k : Nat) (hk : k ≤ n) :
    ∃ a' c', (∀ w', (Instr.sliceAt 66 (.slice a n c) (some (.int .i64 (k : Int))) none none).run Tryz.prog w' = .ok (.slice a' (n - k) c') w') ∧ Bs w (.slice a' (n - k) c') (l.drop k) ∧ n - k ≤ c' ∧ (a' = none → c' = 0) ∧ (∀ fb, Off fb (.slice a n c) → Off fb (.slice a' (n - k) c')) := by
  have hlen := h.len
  have hlt := h.lt
  obtain ⟨b, o, rfl⟩ : ∃ b o, a = some ⟨b, o, none⟩ := by
    rcases h.addr with ⟨h0, _⟩ | ⟨_, b, o', c', hv⟩
    · rw [h0] at hlen; simp at hlen; omega
    · simp only [Value.slice.injEq] at hv
      exact ⟨b, o', hv.1⟩
  have u1 : (0 : Int) ≤ (k : Int) := by omega
  have u2 : (k : Int) ≤ (n : Int) := by omega
  by_cases e : c = k
  · have e2 : n = k := by omega
    subst e2
    subst e
    refine ⟨some ⟨b, o, none⟩, 0, fun w' => by simp [go_sem, Tryz.underlying66], ?_, by omega, (fun h => by cases h), fun fb hf => hf⟩
    rw [Nat.sub_self, List.drop_eq_nil_of_le (by omega)]
    exact bs_nilH _ _ _
  · have u3 : (⟨b, o, none⟩ : Addr).add k = ⟨b, o + k, none⟩ := by unfold Addr.add; split <;> simp_all
    refine ⟨some ⟨b, o + k, none⟩, c - k, fun w' => by simp [go_sem, Tryz.underlying66, u2, e], ⟨_, c - k, by rw [List.length_drop, ← hlen], fun x hx => ?_, fun _ => ⟨b, o + k, rfl, fun i hi => ?_⟩⟩, by omega, (fun h => by cases h), fun fb hf => hf⟩
    · obtain ⟨j, hj, rfl⟩ := List.getElem_of_mem (List.mem_of_mem_drop hx)
      have := hlt j
      rwa [List.getD_eq_getElem?_getD, List.getElem?_eq_getElem hj] at this
    · rw [List.length_drop] at hi
      have h1 := h.cell (k + i) (by omega)
      rw [List.getD_eq_getElem?_getD, List.getElem?_drop, ← List.getD_eq_getElem?_getD, Nat.add_assoc]
      exact h1
theorem HashAt.set_size {w : World} {hb : Nat} {h c : List Nat} {size : Nat} (H : HashAt w hb h c size) (s : Nat) : HashAt (w.setCell ⟨hb, 72, none⟩ (.int .i64 (s : Int))) hb h c s := by
  have h1 := heap_set H.at_ 72 (.int .i64 s)
  refine ⟨?_, H.hl, H.cl, H.ho, H.co⟩
  rw [h1]
  have h2 : (u32s h).length = 8 := by rw [u32s_length, H.hl]
  have h3 : (u8s c).length = 64 := by simp [u8s, H.cl]
  unfold hcells
  rw [List.setIfInBounds_toArray, List.set_append_right _ _ (by omega), h2, List.set_append_right _ _ (by omega), h3]
  rfl
theorem chunk_slice (hb r : Nat) (hr : r < 64) (w : World) : (Instr.sliceAt 208 (.pointer (some ⟨hb, 8, none⟩)) (some (.int .i64 (r : Int))) none none).run Tryz.prog w = .ok (.slice (some ⟨hb, 8 + r, none⟩) (64 - r) (64 - r)) w := by
  have u1 : (r : Int) ≤ 64 := by omega
  have u2 : r ≤ 64 := by omega
  have u3 : (⟨hb, 8, none⟩ : Addr).add r = ⟨hb, 8 + r, none⟩ := by unfold Addr.add; split <;> simp_all
  have u4 : ¬ 64 = r := by omega
  simp [go_sem, Instr.sliceAt, Instr.slice, run_underlying Tryz.underlying208, u1, u4]

/-- what the loop of Write keeps -/
structure WrI (w wr : World) (hb : Nat) (KC SH m l : List Nat) (i n : Nat) (a' : Option Addr) (c' : Nat) : Prop where
  bs : Bs w (.slice a' (n - i) c') (l.drop i)
  cap : n - i ≤ c'
  off : Off hb (.slice a' (n - i) c')
  msg : MsgAt wr hb KC SH (m ++ l.take i)
  kept : Kept hb w wr

theorem WrI.next {w wr w2 : World} {hb : Nat} {KC SH m l : List Nat} {i n k : Nat} {a' a2 : Option Addr} {c' c2 : Nat} (h : WrI w wr hb KC SH m l i n a' c') (hb2 : Bs w (.slice a2 (n - i - k) c2) ((l.drop i).drop k)) (hc2 : n - i - k ≤ c2) (ho2 : Off hb (.slice a2 (n - i - k) c2))
    (hm : MsgAt w2 hb KC SH ((m ++ l.take i) ++ (l.drop i).take k)) (hk : Kept hb wr w2) : WrI w w2 hb KC SH m l (i + k) n a2 c2 := by
  refine ⟨?_, by omega, ?_, ?_, h.kept.trans hk⟩
  · rw [Nat.sub_add_eq, ← List.drop_drop]; exact hb2
  · rw [Nat.sub_add_eq]; exact ho2
  · rw [List.take_add, ← List.append_assoc]; exact hm
set_option maxRecDepth 100000 in
set_option maxHeartbeats 4000000 in
theorem Write_any (hb n c : Nat) (a : Option Addr) (KC SH m l : List Nat) (w : World) (M : MsgAt w hb KC SH m) (V : Vars w KC SH) (h3 : 3 ≤ hb) (hl : Bs w (.slice a n c) l) (hc : n ≤ c) (ho : Off hb (.slice a n c)) (hsz : m.length + n ≤ 1000000000) :
    Calls Tryz.prog 89 #[.pointer (some ⟨hb, 0, none⟩), .slice a n c] w fun e w' => e = .returned (.tuple #[]) ∧ MsgAt w' hb KC SH (m ++ l) ∧ Kept hb w w' := by
  have HLN := hid hl.len
  have HV := hid V
  have h0 : WrI w w hb KC SH m l 0 n a c := ⟨by rw [List.drop_zero, Nat.sub_zero]; exact hl, by omega, by rw [Nat.sub_zero]; exact ho, by rw [List.take_zero, List.append_nil]; exact M, Kept.refl _ _⟩
  have HI := hid h0
  clear M V hl ho h0
  go_enter Tryz.func89, Tryz.ntmps89
  go_wp2
  go_loopw [1] (fun bv wr => ∃ (i : Nat) (a' : Option Addr) (c' : Nat), i ≤ n ∧ bv = .slice a' (n - i) c' ∧ Hid (WrI w wr hb KC SH m l i n a' c')) (fun bv _ => slLen bv)
  case atStart => exact ⟨0, a, c, by omega, by rw [Nat.sub_zero], HI⟩
  case round =>
    clear HI
    obtain ⟨i, a', c', hi, rfl, HI⟩ := hrel
    obtain ⟨nn, hnn⟩ : ∃ nn, nn = n - i := ⟨_, rfl⟩
    rw [← hnn]
    by_cases h0 : 0 < nn
    · have hN : (0 : Int) < (nn : Int) := by omega
      obtain ⟨h, ch, H, e1, e2⟩ := HI.out.msg
      have hlt : (m ++ l.take i).length = m.length + i := by rw [List.length_append, List.length_take]; have := HLN.out; omega
      have hbs := HI.out.bs
      have hcap := HI.out.cap
      have hoff := HI.out.off
      rw [← hnn] at hbs hcap hoff
      generalize hm2 : m ++ l.take i = m2 at *
      obtain ⟨sz, hszz⟩ : ∃ sz, sz = m2.length := ⟨_, rfl⟩
      obtain ⟨r, hr⟩ : ∃ r, r = sz % 64 := ⟨_, rfl⟩
      obtain ⟨k, hk⟩ : ∃ k, k = Nat.min nn (64 - r) := ⟨_, rfl⟩
      have hr64 : r < 64 := by omega
      have hk1 : k ≤ nn := by rw [hk]; exact Nat.min_le_left _ _
      have hk2 : k ≤ 64 - r := by rw [hk]; exact Nat.min_le_right _ _
      have hk3 : 1 ≤ k := by rw [hk]; exact Nat.le_min.2 ⟨h0, by omega⟩
      have hk4 : k = nn ∨ k = 64 - r := by rw [hk]; rcases Nat.le_total nn (64 - r) with h | h; exact .inl (Nat.min_eq_left h); exact .inr (Nat.min_eq_right h)
      have hbr := hbs.kept HI.out.kept hoff
      obtain ⟨a2, c2, hs2, hb2, hcap2, hnil2, hoff2⟩ := bs_from hbs (by omega) hcap k hk1
      have hdl : (l.drop i).length = nn := by rw [List.length_drop, hnn]; have := HLN.out; omega
      rw [← hszz] at H
      have c72 := H.size_
      have hrem : ((sz : Int)).tmod 64 = (r : Int) := by rw [Int.tmod_eq_emod_of_nonneg (by omega)]; omega
      have hch := chunk_slice hb r hr64
      have HH := hid H
      have HBR := hid hbr
      have HE1 := hid (fun (_ : Unit) => e1)
      have HE2 := hid e2
      have HHB := hid hb2
      have HKK := hid hk
      have HO2 := hid hoff2
      have HSZ := hid hszz
      have HRR := hid hr
      have HNN := hid hnn
      have HOF := hid hoff
      have HDL := hid hdl
      have HM2 := hid (fun (_ : Unit) => hm2)
      have hrw : IntKind.i64.wrap (r : Int) = (r : Int) := by rw [IntKind.wrap_i64]; omega
      have hsum : IntKind.i64.wrap ((sz : Int) + (k : Int)) = ((sz + k : Nat) : Int) := by rw [IntKind.wrap_i64]; omega
      have hsz3 : sz + k ≤ 1000000000 := by omega
      clear H hbr e1 e2 hb2 hk hoff2 hszz hr hnn hm2 hoff hbs hdl hlt
      obtain ⟨sk, hsk⟩ : ∃ sk, sk = sz + k := ⟨_, rfl⟩
      rw [← hsk] at hsum hsz3
      have HSK := hid hsk
      clear hsk
      go_wp2
      go_region_held3 (fun w' => w'.cell? ⟨hb, 72, none⟩ = some (.int .i64 (sz : Int)))
        (first | exact HH.out.size_ | exact H5.out.size_)
        (first
          | (refine step_copy_hash (by rfl) (.tmp 18) (.tmp 19) (by rfl) hb r sz nn k h ch (HH.out.same rfl) hr64 (by rfl) a' c' (by rfl) (l.drop i) (HBR.out.drewN 1) h0 HKK.out ?_
             intro w5 hH5 hk5
             have H5 := hid hH5
             have K5 := hid hk5))
      all_goals
        have c73 := H5.out.size_
        have f73 := H5.out.free 72
        have H6 := hid (H5.out.set_size sk)
        have K6 := hid ((((Kept.refl hb wr).drewN 1).trans K5.out).setCell (p := ⟨hb, 72, none⟩) rfl (.int .i64 (sk : Int)))
        have V6 := hid (HV.out.kept (HI.out.kept.trans K6.out) h3)
        have hlk : ((l.drop i).take k).length = k := by rw [List.length_take, HDL.out]; omega
        have hskl : sk = (m2 ++ (l.drop i).take k).length := by rw [List.length_append, hlk, ← HSZ.out]; exact HSK.out
        have HKL := hid hlk
        have HSKL := hid hskl
        clear hlk hskl c72
        by_cases hfull : r + k = 64
        · have t1 : ((sk : Int)).tmod 64 = 0 := by have h1 := HSK.out; have h2 := HRR.out; rw [Int.tmod_eq_emod_of_nonneg (by omega)]; omega
          go_wp2_with fail
          refine (compress_any hb sk h _ KC SH _ H6.out V6.out h3).mono ?_
          rintro e w8 ⟨rfl, hH8, hk8⟩
          have HM8 := hid (show MsgAt w8 hb KC SH (m2 ++ (l.drop i).take k) from msg_full (h := h) HH.out.cl (HE1.out ()) HE2.out (by rw [← HSZ.out, ← HRR.out, HKL.out]; exact hfull) (by rw [← HSZ.out, ← HRR.out, ← HSKL.out]; exact hH8))
          have HWN := hid (show WrI w w8 hb KC SH m l (i + k) n a2 c2 from HI.out.next (by rw [← HNN.out]; exact HHB.out) (by rw [← HNN.out]; exact hcap2) (by rw [← HNN.out]; exact HO2.out hb HOF.out) (by rw [HM2.out ()]; exact HM8.out) (K6.out.trans hk8))
          have hnx : nn - k = n - (i + k) := by have := HNN.out; omega
          have hik : i + k ≤ n := by have := HNN.out; omega
          have hms : slLen (.slice a2 (n - (i + k)) c2) < nn := by show n - (i + k) < nn; have := HNN.out; omega
          clear hH8 hk8
          go_wp2
          exact ⟨⟨i + k, a2, c2, hik, rfl, HWN⟩, hms⟩
        · have hlt64 : r + k < 64 := by omega
          have t1 : ((sk : Int)).tmod 64 = ((r + k : Nat) : Int) := by have h1 := HSK.out; have h2 := HRR.out; rw [Int.tmod_eq_emod_of_nonneg (by omega)]; omega
          obtain ⟨rk, hrk⟩ : ∃ rk, rk = r + k := ⟨_, rfl⟩
          rw [← hrk] at t1
          have t2 : IntKind.i64.wrap (rk : Int) = (rk : Int) := by rw [IntKind.wrap_i64]; omega
          have t3 : ((rk : Int) == 0) = false := by simp; omega
          have HM8 := hid (fun w8 (hH8 : HashAt w8 hb h (putL ch r ((l.drop i).take k)) sk) => (show MsgAt w8 hb KC SH (m2 ++ (l.drop i).take k) from msg_part (h := h) (by rw [← HSZ.out, ← HRR.out, ← HSKL.out]; exact hH8) HH.out.cl (HE1.out ()) HE2.out (by rw [← HSZ.out, ← HRR.out, HKL.out]; exact hlt64)))
          have HWN := hid (show WrI w _ hb KC SH m l (i + k) n a2 c2 from HI.out.next (by rw [← HNN.out]; exact HHB.out) (by rw [← HNN.out]; exact hcap2) (by rw [← HNN.out]; exact HO2.out hb HOF.out) (by rw [HM2.out ()]; exact HM8.out _ H6.out) K6.out)
          have hnx : nn - k = n - (i + k) := by have := HNN.out; omega
          have hik : i + k ≤ n := by have := HNN.out; omega
          have hms : slLen (.slice a2 (n - (i + k)) c2) < nn := by show n - (i + k) < nn; have := HNN.out; omega
          clear hrk
          go_wp2
          exact ⟨⟨i + k, a2, c2, hik, rfl, HWN⟩, hms⟩
    · have hn0 : nn = 0 := by omega
      have hin : i = n := by omega
      have hfin := HI.out.msg
      rw [hin, List.take_of_length_le (by have := HLN.out; omega)] at hfin
      have hkk := HI.out.kept
      clear hnn
      subst hn0
      go_wp2
      go_end0
      exact ⟨rfl, hfin, hkk⟩
theorem Write_gen (hb n c : Nat) (a : Option Addr) (KC SH m l : List Nat) (w : World) (M : MsgAt w hb KC SH m) (V : Vars w KC SH) (h3 : 3 ≤ hb) (hl : Bs w (.slice a n c) l) (hc : n ≤ c) (ho : 0 < n → Off hb (.slice a n c)) (hsz : m.length + n ≤ 1000000000) :
    Calls Tryz.prog 89 #[.pointer (some ⟨hb, 0, none⟩), .slice a n c] w fun e w' => e = .returned (.tuple #[]) ∧ MsgAt w' hb KC SH (m ++ l) ∧ Kept hb w w' := by
  by_cases h0 : 0 < n
  · exact Write_any hb n c a KC SH m l w M V h3 hl hc (ho h0) hsz
  · obtain rfl : n = 0 := by omega
    have hl0 : l = [] := List.eq_nil_of_length_eq_zero hl.len.symm
    subst hl0
    have HM := hid M
    clear M V hl
    go_enter Tryz.func89, Tryz.ntmps89
    go_wp2
    go_loop [1] (fun bv => bv = .slice a 0 c) (fun bv => slLen bv)
    case atStart => rfl
    case round =>
      obtain rfl := hrel
      go_wp2
      go_end0
      exact ⟨rfl, by simpa using HM.out, Kept.refl _ _⟩
end Go.Proofs.YtjgiiciniplbnaaGreatDoor

namespace Go.Proofs.YtjgiiciniplbnaaGreatDoor
open Go Go.RowKit
set_option linter.unusedVariables false

/-- how many bytes go before the length -/
def padB (sz : Nat) : Nat := 64 - (sz + 8) % 64
/-- a byte of the padding, of which i bytes of the length are there -/
def padF (sz i j : Nat) : Nat := if j = 0 then 128 else if padB sz ≤ j ∧ j < padB sz + i then (sz * 8 / 2 ^ (56 - 8 * (j - padB sz))) % 256 else 0
def endL (sz i : Nat) : List Nat := (List.range 72).map (padF sz i)
def padL (sz : Nat) : List Nat := (List.range (padB sz + 8)).map (padF sz 8)
theorem padB_le (sz : Nat) : 1 ≤ padB sz ∧ padB sz ≤ 64 := by unfold padB; omega
theorem padF_lt (sz i j : Nat) : padF sz i j < 256 := by
  unfold padF
  split
  · omega
  · split
    · exact Nat.mod_lt _ (by decide)
    · omega
theorem endL_getD (sz i j : Nat) (hj : j < 72) : (endL sz i).getD j 0 = padF sz i j := by
  unfold endL
  rw [List.getD_eq_getElem?_getD, List.getElem?_map, List.getElem?_range hj]
  rfl
theorem endL_length (sz i : Nat) : (endL sz i).length = 72 := by simp [endL]
theorem endL_step (sz i : Nat) (hi : i < 8) : (endL sz i).set (padB sz + i) ((sz * 8 / 2 ^ (56 - 8 * i)) % 256) = endL sz (i + 1) := by
  have hb := padB_le sz
  refine getD_ext2 (by rw [List.length_set, endL_length, endL_length]) fun j hj => ?_
  rw [List.length_set, endL_length] at hj
  rw [set_getD2 _ _ _ _ (by rw [endL_length]; omega), endL_getD _ _ _ hj, endL_getD _ _ _ hj]
  unfold padF
  by_cases e : j = padB sz + i
  · rw [if_pos e, if_neg (by omega), if_pos (by omega), e, Nat.add_sub_cancel_left]
  · rw [if_neg e]
    by_cases h0 : j = 0
    · rw [if_pos h0, if_pos h0]
    · rw [if_neg h0, if_neg h0]
      by_cases h1 : padB sz ≤ j ∧ j < padB sz + i
      · rw [if_pos h1, if_pos (by omega)]
      · rw [if_neg h1, if_neg (by omega)]
theorem endL_pad (sz : Nat) : (endL sz 8).take (padB sz + 8) = padL sz := by
  have hb := padB_le sz
  unfold endL padL
  rw [← List.map_take, List.take_range, Nat.min_eq_left (by omega)]
theorem padL_length (sz : Nat) : (padL sz).length = padB sz + 8 := by simp [padL]
theorem endL_zero (sz : Nat) : endL sz 0 = (List.replicate 72 0).set 0 128 := by
  refine getD_ext2 (by rw [List.length_set, endL_length, List.length_replicate]) fun j hj => ?_
  rw [endL_length] at hj
  rw [endL_getD _ _ _ hj, set_getD2 _ _ _ _ (by simp), zeros_getD]
  unfold padF
  by_cases e : j = 0
  · rw [if_pos e, if_pos e]
  · rw [if_neg e, if_neg e, if_neg (by omega)]
/-- the 72 bytes -/
def Own9 (w : World) (b : Nat) (l : List Nat) : Prop := w.heap[b]? = some (.cells (u8s l).toArray 231 (0, 0))
theorem Own9.free {w : World} {b : Nat} {l : List Nat} (h : Own9 w b l) (i : Nat) : w.frozen? ⟨b, i, none⟩ = false := free_of_heap h i
theorem Own9.cell {w : World} {b : Nat} {l : List Nat} (h : Own9 w b l) (i : Nat) (hi : i < l.length) : w.cell? ⟨b, i, none⟩ = some (.int .u8 ((l.getD i 0 : Nat) : Int)) := by
  rw [cell_of_heap h]
  simp [u8s, List.getElem?_eq_getElem hi]
theorem Own9.set {w : World} {b : Nat} {l : List Nat} (h : Own9 w b l) (i n : Nat) : Own9 (w.setCell ⟨b, i, none⟩ (.int .u8 ((n : Nat) : Int))) b (l.set i n) := by
  have h1 := heap_set h i (.int .u8 n)
  show _ = _
  rw [h1]
  simp [u8s, List.map_set]
theorem zero9 : Tryz.zeroCells231 = (u8s (List.replicate 72 0)).toArray := by kernel_rfl
theorem end_slice (b k : Nat) (hk : k ≤ 72) (w : World) : (Instr.sliceAt 231 (.pointer (some ⟨b, 0, none⟩)) none (some (.int .i64 (k : Int))) none).run Tryz.prog w = .ok (.slice (some ⟨b, 0, none⟩) k 72) w := by
  have u1 : (k : Int) ≤ 72 := by omega
  simp [go_sem, Instr.sliceAt, Instr.slice, run_underlying Tryz.underlying231, u1]

set_option maxRecDepth 100000 in
set_option maxHeartbeats 4000000 in
theorem pad_any (hb : Nat) (KC SH m : List Nat) (w : World) (M : MsgAt w hb KC SH m) (V : Vars w KC SH) (h3 : 3 ≤ hb) (hsz : m.length ≤ 900000000) :
    Calls Tryz.prog 125 #[.pointer (some ⟨hb, 0, none⟩)] w fun e w' => e = .returned (.tuple #[]) ∧ MsgAt w' hb KC SH (m ++ padL m.length) ∧ Kept hb w w' := by
  obtain ⟨h, ch, H, e1, e2⟩ := M
  have c72 := H.size_
  have hlt := H.lt
  have HM := hid (show MsgAt w hb KC SH m from ⟨h, ch, H, e1, e2⟩)
  have HV := hid V
  obtain ⟨sz, hs⟩ : ∃ sz, sz = m.length := ⟨_, rfl⟩
  rw [← hs] at c72 hsz
  have hbb := padB_le sz
  obtain ⟨bf, hbf⟩ : ∃ bf, bf = padB sz := ⟨_, rfl⟩
  have hB := hid hbf
  have hr1 : ((sz : Int) + 8).tmod 64 = (((sz + 8) % 64 : Nat) : Int) := by rw [Int.tmod_eq_emod_of_nonneg (by omega)]; omega
  obtain ⟨rm, hrm⟩ : ∃ rm, rm = (sz + 8) % 64 := ⟨_, rfl⟩
  rw [← hrm] at hr1
  have w1 : IntKind.i64.wrap ((sz : Int) + 8) = (sz : Int) + 8 := by rw [IntKind.wrap_i64]; omega
  have w2 : IntKind.i64.wrap (rm : Int) = (rm : Int) := by rw [IntKind.wrap_i64]; omega
  have w3 : IntKind.i64.wrap (64 - (rm : Int)) = (bf : Int) := by rw [IntKind.wrap_i64, hbf]; unfold padB; omega
  have w4 : 64 - (rm : Int) = (bf : Int) := by rw [hbf]; unfold padB; omega
  have w5 : IntKind.u64.wrap (sz : Int) = (sz : Int) := by rw [IntKind.wrap_u64]; omega
  have HS := hid hs
  clear V H e1 e2 hbf hrm hs
  go_enter Tryz.func125, Tryz.ntmps125
  go_wp2
  obtain ⟨w1', hw1'⟩ : ∃ w1', w1' = w.alloc (.cells (Tryz.zeroCells231.setIfInBounds 0 (.int .u8 128)) 231) := ⟨_, rfl⟩
  rw [← hw1']
  have HO := hid (show Own9 w1' w.heap.size (endL sz 0) from by
    rw [hw1', endL_zero, zero9]
    have h5 := heap_new w (.cells ((u8s (List.replicate 72 0)).toArray.setIfInBounds 0 (.int .u8 128)) 231)
    rw [List.setIfInBounds_toArray] at h5 ⊢
    show _ = _
    rw [h5]
    simp [u8s])
  have HBL := hid (show Below w.heap.size w w1' from by rw [hw1']; exact (Below.refl _ _).alloc (Nat.le_refl _) _)
  clear hw1' c72
  go_loopw [20] (fun iv wr => ∃ i : Nat, i ≤ 8 ∧ iv = .int .i64 i ∧ Hid (Own9 wr w.heap.size (endL sz i)) ∧ Hid (Below w.heap.size w wr)) (fun iv _ => 8 - (intOf iv).toNat)
  case atStart => exact ⟨0, by omega, rfl, HO, HBL⟩
  case round =>
    clear HO HBL
    obtain ⟨i, hi, rfl, HO, HBL⟩ := hrel
    by_cases hi8 : i < 8
    · have hI : (i : Int) < 8 := by omega
      have hpb := hB.out
      obtain ⟨p, hp⟩ : ∃ p, p = bf + i := ⟨_, rfl⟩
      obtain ⟨sh, hsh⟩ : ∃ sh, sh = 56 - 8 * i := ⟨_, rfl⟩
      have p1 : p < 72 := by omega
      have p2 : (p : Int) < 72 := by omega
      have p3 : IntKind.i64.wrap ((bf : Int) + (i : Int)) = (p : Int) := by rw [IntKind.wrap_i64]; omega
      have p4 : (bf : Int) + (i : Int) = (p : Int) := by omega
      have p5 : IntKind.i64.wrap (p : Int) = (p : Int) := by rw [IntKind.wrap_i64]; omega
      have s1 : IntKind.i64.wrap (56 - 8 * (i : Int)) = (sh : Int) := by rw [IntKind.wrap_i64]; omega
      have s2 : 56 - 8 * (i : Int) = (sh : Int) := by omega
      have s3 : IntKind.i64.wrap (8 * (i : Int)) = 8 * (i : Int) := by rw [IntKind.wrap_i64]; omega
      have s4 : IntKind.i64.wrap (sh : Int) = (sh : Int) := by rw [IntKind.wrap_i64]; omega
      have c1 := HO.out.cell p (by rw [endL_length]; exact p1)
      have f1 := HO.out.free p
      have hst := HO.out.set p ((sz * 8 / 2 ^ sh) % 256)
      rw [hp, hpb, hsh, endL_step sz i hi8, ← hpb, ← hp, ← hsh] at hst
      have HST := hid hst
      have HB2 := hid (HBL.out.setCell (p := ⟨w.heap.size, p, none⟩) (Nat.le_refl _) (.int .u8 (((sz * 8 / 2 ^ sh) % 256 : Nat) : Int)))
      clear hst hp hsh hpb
      generalize (endL sz i).getD p 0 = z at *
      have hcast : (sz : Int) * 8 / 2 ^ sh % 256 = (((sz * 8 / 2 ^ sh) % 256 : Nat) : Int) := by simp
      have HCAST := hid (fun (_ : Unit) => hcast)
      clear hcast
      go_wp2
      rw [HCAST.out ()]
      exact ⟨⟨i + 1, by omega, by go_num, HST, HB2⟩, by simp [intOf]; omega⟩
    · have h8 : i = 8 := by omega
      have hI : ¬ ((i : Int) < 8) := by omega
      obtain ⟨p, hp⟩ : ∃ p, p = bf + 8 := ⟨_, rfl⟩
      have p1 : p ≤ 72 := by omega
      have p3 : IntKind.i64.wrap ((bf : Int) + 8) = (p : Int) := by rw [IntKind.wrap_i64]; omega
      have p4 : (bf : Int) + 8 = (p : Int) := by omega
      have p5 : IntKind.i64.wrap (p : Int) = (p : Int) := by rw [IntKind.wrap_i64]; omega
      have hes := end_slice w.heap.size p p1
      have hbs : Bs wr (.slice (some ⟨w.heap.size, 0, none⟩) p 72) (padL sz) := by
        have h5 : ∀ j, j < p → wr.cell? ⟨w.heap.size, j, none⟩ = some (.int .u8 (((padL sz).getD j 0 : Nat) : Int)) := fun j hj => by
          rw [HO.out.cell j (by rw [endL_length]; omega), h8, ← endL_pad, List.getD_eq_getElem?_getD, List.getD_eq_getElem?_getD, List.getElem?_take_of_lt (by rw [← hB.out, ← hp]; exact hj)]
        refine ⟨_, 72, by rw [padL_length, ← hB.out, hp], fun x hx => ?_, fun _ => ⟨w.heap.size, 0, rfl, fun j hj => by rw [Nat.zero_add]; exact h5 j (by rw [padL_length, ← hB.out, ← hp] at hj; exact hj)⟩⟩
        unfold padL at hx
        obtain ⟨j, _, rfl⟩ := List.mem_map.1 hx
        exact padF_lt _ _ _
      have HBS := hid hbs
      have HMW := hid (HM.out.same (HBL.out.block hb hlt))
      have HVW := hid (HV.out.below HBL.out)
      have HK := hid (Kept.of_below (b := hb) HBL.out)
      have hsz2 := HS.out
      clear hbs hp h8
      go_wp2_with fail
      refine (Write_any hb p 72 (some ⟨w.heap.size, 0, none⟩) KC SH m (padL sz) wr HMW.out HVW.out h3 HBS.out p1 (by show w.heap.size ≠ hb; omega) (by omega)).mono ?_
      rintro e9 w9 ⟨rfl, hM9, hk9⟩
      rw [hsz2] at hM9
      have HK9 := hid (HK.out.trans hk9)
      have HM9 := hid hM9
      clear hM9 hk9
      go_wp2
      go_end0
      exact ⟨rfl, HM9.out, HK9.out⟩
end Go.Proofs.YtjgiiciniplbnaaGreatDoor

namespace Go.Proofs.YtjgiiciniplbnaaGreatDoor
open Go Go.RowKit
set_option linter.unusedVariables false

/-- the bytes of a state, i words and j bytes of the next one -/
def digF (h : List Nat) (p : Nat) : Nat := (h.getD (p / 4) 0 / 2 ^ (24 - 8 * (p % 4))) % 256
def digTo (h : List Nat) (k : Nat) : List Nat := (List.range 32).map fun p => if p < k then digF h p else 0
def digL (h : List Nat) : List Nat := (List.range 32).map (digF h)
/-- the digest of a message -/
def dig (KC SH m : List Nat) : List Nat := digL (hsK (fun i => KC.getD i 0) SH (m ++ padL m.length) ((m ++ padL m.length).length / 64))
theorem digTo_length (h : List Nat) (k : Nat) : (digTo h k).length = 32 := by simp [digTo]
theorem digTo_getD (h : List Nat) (k j : Nat) (hj : j < 32) : (digTo h k).getD j 0 = if j < k then digF h j else 0 := by
  unfold digTo
  rw [List.getD_eq_getElem?_getD, List.getElem?_map, List.getElem?_range hj]
  rfl
theorem digTo_step (h : List Nat) (k : Nat) (hk : k < 32) : (digTo h k).set k (digF h k) = digTo h (k + 1) := by
  refine getD_ext2 (by rw [List.length_set, digTo_length, digTo_length]) fun j hj => ?_
  rw [List.length_set, digTo_length] at hj
  rw [set_getD2 _ _ _ _ (by rw [digTo_length]; exact hk), digTo_getD _ _ _ hj, digTo_getD _ _ _ hj]
  by_cases e : j = k
  · rw [if_pos e, if_pos (by omega), e]
  · rw [if_neg e]
    by_cases h2 : j < k
    · rw [if_pos h2, if_pos (by omega)]
    · rw [if_neg h2, if_neg (by omega)]
theorem digTo_all (h : List Nat) : digTo h 32 = digL h := by
  unfold digTo digL
  apply List.map_congr_left
  intro j hj
  rw [if_pos (List.mem_range.1 hj)]
theorem digTo_zero (h : List Nat) : digTo h 0 = List.replicate 32 0 := by
  refine getD_ext2 (by rw [digTo_length, List.length_replicate]) fun j hj => ?_
  rw [digTo_length] at hj
  rw [digTo_getD _ _ _ hj, zeros_getD, if_neg (by omega)]
theorem digL_length (h : List Nat) : (digL h).length = 32 := by simp [digL]
/-- a digest in memory -/
def OwnD (w : World) (b : Nat) (l : List Nat) : Prop := w.heap[b]? = some (.cells (u8s l).toArray 23 (0, 0))

set_option maxRecDepth 100000 in
set_option maxHeartbeats 4000000 in
theorem Sum_any (hb : Nat) (KC SH m : List Nat) (w : World) (M : MsgAt w hb KC SH m) (V : Vars w KC SH) (h3 : 3 ≤ hb) (hsz : m.length ≤ 900000000) :
    Calls Tryz.prog 90 #[.pointer (some ⟨hb, 0, none⟩)] w fun e w' => e = .returned (.agg (u8s (dig KC SH m)).toArray) ∧ Below w.heap.size w w' := by
  obtain ⟨h, ch, H, e1, e2⟩ := M
  have hlt := H.lt
  have HH := hid H
  have HV := hid V
  have HE1 := hid (fun (_ : Unit) => e1)
  have HE2 := hid e2
  clear H V e1 e2
  have hcl : (hcells h ch m.length).length = 73 := by simp [hcells, u32s_length, u8s, HH.out.hl, HH.out.cl]
  have HRA := hid (show (w.alloc (.cells (u8s (List.replicate 32 0)).toArray 23)).rangeAt hb 0 (hcells h ch m.length) from fun j v hj => by
    rw [Nat.zero_add, cell_of_heap (heap_alloc HH.out.at_ _), List.getElem?_toArray]
    exact hj)
  have HNW := hid (show ∀ O, ((w.alloc (.cells (u8s (List.replicate 32 0)).toArray 23)).alloc O).heap[w.heap.size + 1]? = some O from fun O => by
    have h5 := heap_new (w.alloc (.cells (u8s (List.replicate 32 0)).toArray 23)) O
    rwa [World.size_alloc] at h5)
  have HIF := hid (show (Tryz.prog.info? 210).map (·.size) = some (hcells h ch m.length).length from by rw [hcl]; kernel_rfl)
  have HIF2 := hid (show (Tryz.prog.info? 210).map (·.size) = some (hcells h ch m.length).toArray.size from by rw [List.size_toArray, hcl]; kernel_rfl)
  have HC73 := hid (show (hcells h ch m.length).toArray.size = 73 from by rw [List.size_toArray, hcl])
  have HONE := hid (show (hcells h ch m.length).toArray.all (·.oneCell') = true from all_oneCell_toArray fun v hv => by
    unfold hcells at hv
    rcases List.mem_append.1 hv with h1 | h1
    · unfold u32s at h1
      obtain ⟨y, _, rfl⟩ := List.mem_map.1 h1
      rfl
    · rcases List.mem_append.1 h1 with h2 | h2
      · exact u8s_oneH _ v h2
      · rw [List.mem_singleton.1 h2]; rfl)
  clear hcl
  go_enter Tryz.func90, Tryz.ntmps90
  go_wp2_with (first
    | (refine wpList_load_mid (by rfl) 210 (.tmp 12) (by rfl) hb 0 (by rfl) (hcells h ch m.length) _ HRA.out Tryz.underlying210 rfl HIF.out ?_)
    | (refine wpList_store_row (by rfl) 210 (.tmp 3) (.tmp 13) (by rfl) (w.heap.size + 1) _ (hcells h ch m.length).toArray _ (by rfl) (by rfl) (HNW.out _) HIF2.out (by rw [HC73.out]; kernel_rfl) HONE.out ?_
       intro w5 hw5 hk5))
  have hkw : Below w.heap.size w w5 := (((Below.refl w.heap.size w).alloc (Nat.le_refl _) (.cells (u8s (List.replicate 32 0)).toArray 23)).alloc (by simp) _).trans (hk5.below (by simp; omega) (by omega))
  have H5 : HashAt w5 (w.heap.size + 1) h ch m.length := ⟨hw5, HH.out.hl, HH.out.cl, HH.out.ho, HH.out.co⟩
  have HR5 := hid ((hk5.block w.heap.size (by simp; omega) (by omega)).trans (heap_alloc (heap_new w (.cells (u8s (List.replicate 32 0)).toArray 23)) _))
  have M5 : MsgAt w5 (w.heap.size + 1) KC SH m := ⟨h, ch, H5, HE1.out (), HE2.out⟩
  have V5 := HV.out.below hkw
  have HKW := hid hkw
  have HM5 := hid M5
  have HV5 := hid V5
  have hs5 := hkw.size
  have hlt5 := lt_of_heap hw5
  clear hw5 hk5 hkw H5 M5 V5 HRA HNW HIF HIF2 HC73 HONE
  refine (pad_any (w.heap.size + 1) KC SH m w5 HM5.out HV5.out (by have := HV.out.lt; omega) hsz).mono ?_
  rintro e9 w6 ⟨rfl, hM6, hk6⟩
  obtain ⟨mp, hmp⟩ : ∃ mp, mp = m ++ padL m.length := ⟨_, rfl⟩
  rw [← hmp] at hM6
  obtain ⟨h6, ch6, H6, e6, _⟩ := hM6
  have hdig := hid (fun (_ : Unit) => (show dig KC SH m = digL h6 from by unfold dig; rw [← hmp, ← e6]))
  have HH6 := hid H6
  have HR6 := hid ((hk6.block w.heap.size (by omega) (by omega)).trans HR5.out)
  have HB6 := hid (HKW.out.trans (hk6.below hs5 (by omega)))
  have hs6 := HB6.out.size
  have hl6 := H6.lt
  have g0 := H6.word 0 (by omega)
  have g1 := H6.word 1 (by omega)
  have g2 := H6.word 2 (by omega)
  have g3 := H6.word 3 (by omega)
  have g4 := H6.word 4 (by omega)
  have g5 := H6.word 5 (by omega)
  have g6 := H6.word 6 (by omega)
  have g7 := H6.word 7 (by omega)
  have HSC := hid (show ∀ j, j < 8 → [((h6.getD 0 0 : Nat) : Int), (h6.getD 1 0 : Nat), (h6.getD 2 0 : Nat), (h6.getD 3 0 : Nat), (h6.getD 4 0 : Nat), (h6.getD 5 0 : Nat), (h6.getD 6 0 : Nat), (h6.getD 7 0 : Nat)].getD j 0 = ((h6.getD j 0 : Nat) : Int) from fun j hj => by
    have h : j = 0 ∨ j = 1 ∨ j = 2 ∨ j = 3 ∨ j = 4 ∨ j = 5 ∨ j = 6 ∨ j = 7 := by omega
    rcases h with rfl | rfl | rfl | rfl | rfl | rfl | rfl | rfl <;> rfl)
  have HW8 := hid H6.ho
  clear hmp H6 e6 hk6
  generalize hx0 : h6.getD 0 0 = x0 at *
  generalize hx1 : h6.getD 1 0 = x1 at *
  generalize hx2 : h6.getD 2 0 = x2 at *
  generalize hx3 : h6.getD 3 0 = x3 at *
  generalize hx4 : h6.getD 4 0 = x4 at *
  generalize hx5 : h6.getD 5 0 = x5 at *
  generalize hx6 : h6.getD 6 0 = x6 at *
  generalize hx7 : h6.getD 7 0 = x7 at *
  clear hx0 hx1 hx2 hx3 hx4 hx5 hx6 hx7
  have HD := hid (show OwnD (w6.alloc (.cells (u8s (List.replicate 32 0)).toArray 23)) w6.heap.size (digTo h6 0) from by rw [digTo_zero]; exact heap_new _ _)
  have HR7 := hid (heap_alloc HR6.out (.cells (u8s (List.replicate 32 0)).toArray 23))
  have HB7 := hid (HB6.out.alloc hs6 (.cells (u8s (List.replicate 32 0)).toArray 23))
  have hne : w.heap.size ≠ w6.heap.size := by omega
  go_wp2
  change Code.wp _ _ _ _ (w6.alloc (.cells (u8s (List.replicate 32 0)).toArray 23))
  obtain ⟨w7, hw7⟩ : ∃ w7, w7 = w6.alloc (.cells (u8s (List.replicate 32 0)).toArray 23) := ⟨_, rfl⟩
  rw [← hw7] at HD HR7 HB7 ⊢
  obtain ⟨db, hdb⟩ : ∃ db, db = w6.heap.size := ⟨_, rfl⟩
  rw [← hdb] at HD hne hs6 ⊢
  clear hw7 g0 g1 g2 g3 g4 g5 g6 g7 hdb HR6
  go_loopw [17] (fun iv wr => ∃ i : Nat, i ≤ 8 ∧ iv = .int .i64 i ∧ Hid (OwnD wr db (digTo h6 (4 * i))) ∧ Hid (OwnD wr w.heap.size (List.replicate 32 0)) ∧ Hid (Below w.heap.size w wr)) (fun iv _ => 8 - (intOf iv).toNat)
  case atStart => exact ⟨0, by omega, rfl, HD, HR7, HB7⟩
  case round =>
    clear HD HR7 HB7
    obtain ⟨i, hi, rfl, HD, HR7, HB7⟩ := hrel
    by_cases hi8 : i < 8
    · have hI : (i : Int) < 8 := by omega
      have hidx := fun w' => idx8 (x0 : Int) x1 x2 x3 x4 x5 x6 x7 i hi8 w'
      rw [HSC.out i hi8] at hidx
      have HXV := hid (fun (_ : Unit) => (rfl : h6.getD i 0 = h6.getD i 0))
      have hxl := HW8.out i
      obtain ⟨x, hx⟩ : ∃ x, x = h6.getD i 0 := ⟨_, rfl⟩
      rw [← hx] at hidx hxl
      have HX := hid (fun (_ : Unit) => hx)
      clear hx HXV
      go_wp2
      go_loopw [21] (fun jv wr => ∃ j : Nat, j ≤ 4 ∧ jv = .int .i64 j ∧ Hid (OwnD wr db (digTo h6 (4 * i + j))) ∧ Hid (OwnD wr w.heap.size (List.replicate 32 0)) ∧ Hid (Below w.heap.size w wr)) (fun jv _ => 4 - (intOf jv).toNat)
      case atStart => exact ⟨0, by omega, rfl, HD, HR7, HB7⟩
      case round =>
        clear HD HR7 HB7
        obtain ⟨j, hj, rfl, HD, HR7, HB7⟩ := hrel
        by_cases hj4 : j < 4
        · have hJ : (j : Int) < 4 := by omega
          obtain ⟨p, hp⟩ : ∃ p, p = 4 * i + j := ⟨_, rfl⟩
          obtain ⟨sh, hsh⟩ : ∃ sh, sh = 24 - 8 * j := ⟨_, rfl⟩
          have p1 : p < 32 := by omega
          have p2 : (p : Int) < 32 := by omega
          have p3 : IntKind.i64.wrap (4 * (i : Int) + (j : Int)) = (p : Int) := by rw [IntKind.wrap_i64]; omega
          have p4 : 4 * (i : Int) + (j : Int) = (p : Int) := by omega
          have p5 : IntKind.i64.wrap (p : Int) = (p : Int) := by rw [IntKind.wrap_i64]; omega
          have p6 : IntKind.i64.wrap (4 * (i : Int)) = 4 * (i : Int) := by rw [IntKind.wrap_i64]; omega
          have s1 : IntKind.i64.wrap (24 - 8 * (j : Int)) = (sh : Int) := by rw [IntKind.wrap_i64]; omega
          have s2 : 24 - 8 * (j : Int) = (sh : Int) := by omega
          have s3 : IntKind.i64.wrap (8 * (j : Int)) = 8 * (j : Int) := by rw [IntKind.wrap_i64]; omega
          have s4 : IntKind.i64.wrap (sh : Int) = (sh : Int) := by rw [IntKind.wrap_i64]; omega
          have hlen := digTo_length h6 p
          have c1 : wr.cell? ⟨db, p, none⟩ = some (.int .u8 (((digTo h6 p).getD p 0 : Nat) : Int)) := by
            have h1 := HD.out
            rw [← hp] at h1
            rw [cell_of_heap h1]
            simp [u8s, List.getElem?_eq_getElem (show p < (digTo h6 p).length by omega)]
          have f1 : wr.frozen? ⟨db, p, none⟩ = false := free_of_heap HD.out p
          have hval : digF h6 p = x / 2 ^ sh % 256 := by unfold digF; rw [HX.out (), show p / 4 = i from by omega, show p % 4 = j from by omega, hsh]
          have hst : OwnD (wr.setCell ⟨db, p, none⟩ (.int .u8 ((digF h6 p : Nat) : Int))) db (digTo h6 (p + 1)) := by
            have h1 := HD.out
            rw [← hp] at h1
            have h2 := heap_set h1 p (.int .u8 ((digF h6 p : Nat) : Int))
            show _ = _
            rw [h2, ← digTo_step h6 p p1]
            simp [u8s, List.map_set]
          have hcast : (x : Int) / 2 ^ sh % 256 = ((digF h6 p : Nat) : Int) := by rw [hval]; simp
          have hnx : p + 1 = 4 * i + (j + 1) := by omega
          rw [hnx] at hst
          have HST := hid hst
          have HCAST := hid (fun (_ : Unit) => hcast)
          have HR8 := hid (show OwnD (wr.setCell ⟨db, p, none⟩ (.int .u8 ((digF h6 p : Nat) : Int))) w.heap.size (List.replicate 32 0) from (Below.heap_setCell wr ⟨db, p, none⟩ _ _ hne).trans HR7.out)
          have HB8 := hid (HB7.out.setCell (p := ⟨db, p, none⟩) (by show w.heap.size ≤ db; omega) (.int .u8 ((digF h6 p : Nat) : Int)))
          clear hst hcast hval hlen hp hsh hnx
          generalize (digTo h6 p).getD p 0 = z at *
          go_wp2
          rw [HCAST.out ()]
          exact ⟨⟨j + 1, by omega, by go_num, HST, HR8, HB8⟩, by simp [intOf]; omega⟩
        · have hj' : j = 4 := by omega
          have hJ : ¬ ((j : Int) < 4) := by omega
          have HD2 := hid (show OwnD wr db (digTo h6 (4 * (i + 1))) from by have h1 := HD.out; rw [hj'] at h1; exact h1)
          clear HD hj'
          go_wp2
          exact ⟨⟨i + 1, by omega, by go_num, HD2, HR7, HB7⟩, by simp [intOf]; omega⟩
    · have hi' : i = 8 := by omega
      have hI : ¬ ((i : Int) < 8) := by omega
      have hD := HD.out
      rw [hi', digTo_all] at hD
      have hl32 : (u8s (digL h6)).length = 32 := by simp [u8s, digL_length]
      have HRA := hid (show wr.rangeAt db 0 (u8s (digL h6)) from fun j v hj => by rw [Nat.zero_add, cell_of_heap hD, List.getElem?_toArray]; exact hj)
      have HIF := hid (show (Tryz.prog.info? 23).map (·.size) = some (u8s (digL h6)).length from by rw [hl32]; kernel_rfl)
      have HIF2 := hid (show (Tryz.prog.info? 23).map (·.size) = some (u8s (digL h6)).toArray.size from by rw [List.size_toArray, hl32]; kernel_rfl)
      have HOLD := hid (show (u8s (List.replicate 32 0)).toArray.size = (u8s (digL h6)).toArray.size from by rw [List.size_toArray, List.size_toArray, hl32]; rfl)
      have HONE := hid (show (u8s (digL h6)).toArray.all (·.oneCell') = true from all_oneCell_toArray (u8s_oneH _))
      have hbw := HB7.out
      clear hD hl32 HD hi'
      go_wp2_with (first
        | (refine wpList_load_mid (by rfl) 23 (.tmp 4) (by rfl) db 0 (by rfl) (u8s (digL h6)) _ HRA.out Tryz.underlying23 rfl HIF.out ?_)
        | (refine wpList_store_row (by rfl) 23 (.tmp 2) (.tmp 37) (by rfl) w.heap.size _ (u8s (digL h6)).toArray _ (by rfl) (by rfl) HR7.out HIF2.out HOLD.out HONE.out ?_
           intro w8 hw8 hk8))
      have hres : (loadVar 23 ⟨w.heap.size, 0, none⟩).run Tryz.prog w8 = .ok (.agg (u8s (digL h6)).toArray) w8 := run_loadVar_row _ _ 23 23 _ (0, 0) _ hw8 Tryz.underlying23 rfl HIF2.out
      refine bodyPost_ret (v := .agg (u8s (digL h6)).toArray) (results_at Tryz.results90 rfl hres) rfl ⟨by rw [hdig.out ()], ?_⟩
      exact hbw.trans (hk8.below hbw.size (Nat.le_refl _))
end Go.Proofs.YtjgiiciniplbnaaGreatDoor

namespace Go.Proofs.YtjgiiciniplbnaaGreatDoor
open Go Go.RowKit
set_option linter.unusedVariables false

theorem list8 (l : List Nat) (h : l.length = 8) : l = [l.getD 0 0, l.getD 1 0, l.getD 2 0, l.getD 3 0, l.getD 4 0, l.getD 5 0, l.getD 6 0, l.getD 7 0] := by
  match l, h with
  | [a, b, c, d, e, f, g, k], _ => rfl
set_option maxRecDepth 100000 in
set_option maxHeartbeats 2000000 in
theorem NewHash_any (KC SH : List Nat) (w : World) (V : Vars w KC SH) :
    Calls Tryz.prog 88 #[] w fun e w' => e = .returned (.pointer (some ⟨w.heap.size, 0, none⟩)) ∧ MsgAt w' w.heap.size KC SH [] ∧ Below w.heap.size w w' := by
  have g : ∀ i, i < 8 → w.cell? ⟨1, i, none⟩ = some (.int .u32 ((SH.getD i 0 : Nat) : Int)) := fun i hi => by
    have h1 : i < SH.length := by rw [V.sl]; exact hi
    have h2 := V.start i (.int .u32 ((SH.getD i 0 : Nat) : Int)) (by simp [u32s, h1])
    rwa [Nat.zero_add] at h2
  have hc : hcells SH (List.replicate 64 0) 0 = hcells [SH.getD 0 0, SH.getD 1 0, SH.getD 2 0, SH.getD 3 0, SH.getD 4 0, SH.getD 5 0, SH.getD 6 0, SH.getD 7 0] (List.replicate 64 0) 0 := by rw [← list8 SH V.sl]
  have hm : MsgAt (w.alloc (.cells (hcells SH (List.replicate 64 0) 0).toArray 210)) w.heap.size KC SH [] :=
    ⟨SH, List.replicate 64 0, ⟨heap_new _ _, V.sl, by simp, V.so, fun i => by rw [zeros_getD]; decide⟩, rfl, fun j hj => absurd hj (Nat.not_lt_zero _)⟩
  rw [hc] at hm
  have HM := hid hm
  have g0 := g 0 (by omega)
  have g1 := g 1 (by omega)
  have g2 := g 2 (by omega)
  have g3 := g 3 (by omega)
  have g4 := g 4 (by omega)
  have g5 := g 5 (by omega)
  have g6 := g 6 (by omega)
  have g7 := g 7 (by omega)
  clear g hc hm V
  generalize SH.getD 0 0 = x0 at *
  generalize SH.getD 1 0 = x1 at *
  generalize SH.getD 2 0 = x2 at *
  generalize SH.getD 3 0 = x3 at *
  generalize SH.getD 4 0 = x4 at *
  generalize SH.getD 5 0 = x5 at *
  generalize SH.getD 6 0 = x6 at *
  generalize SH.getD 7 0 = x7 at *
  go_enter Tryz.func88, Tryz.ntmps88
  go_wp2
  go_ret
  exact ⟨rfl, HM.out, (Below.refl _ _).alloc (Nat.le_refl _) _⟩
theorem dig_length (KC SH m : List Nat) : (dig KC SH m).length = 32 := digL_length _

set_option maxRecDepth 100000 in
set_option maxHeartbeats 1000000 in
theorem SHA256_any (a : Option Addr) (n c : Nat) (KC SH l : List Nat) (w : World) (V : Vars w KC SH) (hl : Bs w (.slice a n c) l) (hc : n ≤ c) (hsz : n ≤ 900000000) :
    Calls Tryz.prog 60 #[.slice a n c] w fun e w' => e = .returned (.agg (u8s (dig KC SH l)).toArray) ∧ Below w.heap.size w w' := by
  have HV := hid V
  have HL := hid hl
  have hn := hl.len
  have HN := hid hn
  obtain ⟨w1, hw1⟩ : ∃ w1, w1 = w.alloc (.cells (u8s (List.replicate 32 0)).toArray 23) := ⟨_, rfl⟩
  have hb1 : Below w.heap.size w w1 := by rw [hw1]; exact (Below.refl _ _).alloc (Nat.le_refl _) _
  have HR1 := hid (show OwnD w1 w.heap.size (List.replicate 32 0) from by rw [hw1]; exact heap_new _ _)
  have hs1 : w1.heap.size = w.heap.size + 1 := by rw [hw1]; simp
  have HB1 := hid hb1
  have HV1 := hid (V.below hb1)
  have hvlt := V.lt
  clear V hl hb1 hn
  go_enter Tryz.func60, Tryz.ntmps60
  go_wp2_with fail
  change Calls _ _ _ (w.alloc (.cells (u8s (List.replicate 32 0)).toArray 23)) _
  rw [← hw1]
  clear hw1
  refine (NewHash_any KC SH w1 HV1.out).mono ?_
  rintro e w2 ⟨rfl, hM2, hb2⟩
  have HM2 := hid hM2
  have HR2 := hid ((hb2.block w.heap.size (by omega)).trans HR1.out)
  have HB2 := hid (HB1.out.trans (hb2.mono HB1.out.size))
  have HV2 := hid (HV1.out.below hb2)
  obtain ⟨hb, hhb⟩ : ∃ hb, hb = w1.heap.size := ⟨_, rfl⟩
  rw [← hhb] at HM2 ⊢
  have HHB := hid hhb
  have h4 : hb = w.heap.size + 1 := by omega
  have HS1 := hid hs1
  clear hM2 hb2 hhb hs1
  have hbl := HL.out.below HB2.out
  have hoff : 0 < n → Off hb (.slice a n c) := fun h0 => by
    rcases HL.out.addr with ⟨h1, _⟩ | ⟨h1, b, o, c', hv⟩
    · have := HN.out; rw [h1] at this; simp at this; omega
    · simp only [Value.slice.injEq] at hv
      obtain ⟨rfl, _, _⟩ := hv
      have h1 := HL.out.cell 0 (by rw [← HN.out]; exact h0)
      have h2 := World.block_lt_of_cell? _ _ h1
      show b ≠ hb
      simp only at h2
      omega
  have HBL := hid hbl
  have HOF := hid hoff
  clear hbl hoff
  have q3 : 3 ≤ hb := by omega
  have qh : w.heap.size ≤ hb := by omega
  have qn : w.heap.size ≠ hb := by omega
  have q4 : ([] : List Nat).length + n ≤ 1000000000 := by rw [List.length_nil, Nat.zero_add]; exact Nat.le_trans hsz (by decide)
  have HQ := hid (Write_gen hb n c a KC SH [] l w2 HM2.out HV2.out q3 HBL.out hc HOF.out q4)
  clear q4
  have H4 := hid h4
  clear h4
  go_wp2_with fail
  refine HQ.out.mono ?_
  clear HQ
  rintro e w3 ⟨rfl, hM3, hk3⟩
  rw [List.nil_append] at hM3
  have HM3 := hid hM3
  have HR3 := hid ((hk3.block w.heap.size (lt_of_heap HR2.out) qn).trans HR2.out)
  have HV3 := hid (HV2.out.kept hk3 q3)
  have HB3 := hid (HB2.out.trans (hk3.below HB2.out.size qh))
  clear hM3 hk3
  go_wp2_with fail
  refine (Sum_any hb KC SH l w3 HM3.out HV3.out q3 (by rw [← HN.out]; exact hsz)).mono ?_
  rintro e w4 ⟨rfl, hb4⟩
  have HR4 := hid ((hb4.block w.heap.size (lt_of_heap HR3.out)).trans HR3.out)
  have hbe := HB3.out.trans (hb4.mono HB3.out.size)
  have hl32 := dig_length KC SH l
  generalize hD : dig KC SH l = D at *
  have HD := hid (fun (_ : Unit) => hD)
  have hl32' : (u8s D).length = 32 := by simp [u8s, hl32]
  have HIF2 := hid (show (Tryz.prog.info? 23).map (·.size) = some (u8s D).toArray.size from by rw [List.size_toArray, hl32']; kernel_rfl)
  have HOLD := hid (show (u8s (List.replicate 32 0)).toArray.size = (u8s D).toArray.size from by rw [List.size_toArray, List.size_toArray, hl32']; rfl)
  have HONE := hid (show (u8s D).toArray.all (·.oneCell') = true from all_oneCell_toArray (u8s_oneH _))
  clear hD hb4 hl32 hl32'
  go_wp2_with (refine wpList_store_row (by rfl) 23 (.tmp 2) (.tmp 9) (by rfl) w.heap.size _ (u8s D).toArray _ (by rfl) (by rfl) HR4.out HIF2.out HOLD.out HONE.out ?_
               intro w8 hw8 hk8)
  have hres : (loadVar 23 ⟨w.heap.size, 0, none⟩).run Tryz.prog w8 = .ok (.agg (u8s D).toArray) w8 := run_loadVar_row _ _ 23 23 _ (0, 0) _ hw8 Tryz.underlying23 rfl HIF2.out
  refine bodyPost_ret (v := .agg (u8s D).toArray) (results_at Tryz.results60 rfl hres) rfl ⟨by first | rfl | rw [HD.out ()], ?_⟩
  exact hbe.trans (hk8.below hbe.size (Nat.le_refl _))
end Go.Proofs.YtjgiiciniplbnaaGreatDoor

namespace Go.Proofs.YtjgiiciniplbnaaGreatDoor
open Go Go.RowKit

def shaStart : List Nat := [1779033703, 3144134277, 1013904242, 2773480762, 1359893119, 2600822924, 528734635, 1541459225]
def shaRound : List Nat := [1116352408, 1899447441, 3049323471, 3921009573, 961987163, 1508970993, 2453635748, 2870763221, 3624381080, 310598401, 607225278, 1426881987, 1925078388, 2162078206, 2614888103, 3248222580, 3835390401, 4022224774, 264347078, 604807628, 770255983, 1249150122, 1555081692, 1996064986, 2554220882, 2821834349, 2952996808, 3210313671, 3336571891, 3584528711, 113926993, 338241895, 666307205, 773529912, 1294757372, 1396182291, 1695183700, 1986661051, 2177026350, 2456956037, 2730485921, 2820302411, 3259730800, 3345764771, 3516065817, 3600352804, 4094571909, 275423344, 430227734, 506948616, 659060556, 883997877, 958139571, 1322822218, 1537002063, 1747873779, 1955562222, 2024104815, 2227730452, 2361852424, 2428436474, 2756734187, 3204031479, 3329325298]
set_option maxRecDepth 100000 in
theorem sha_abc : dig shaRound shaStart [97, 98, 99] = [186, 120, 22, 191, 143, 1, 207, 234, 65, 65, 64, 222, 93, 174, 34, 35, 176, 3, 97, 163, 150, 23, 122, 156, 180, 16, 255, 97, 242, 0, 21, 173] := by kernel_rfl
end Go.Proofs.YtjgiiciniplbnaaGreatDoor

namespace Go.Proofs.YtjgiiciniplbnaaGreatDoor
open Go Go.RowKit Go.ChangeShapes Go.WideShapes Go.ChangeAt

abbrev laidA : List (String × DataW Unit) := [("stolon/digest.start", Rows.laid_stolon_digest_start), ("stolon/digest.roundConstants", Rows.laid_stolon_digest_roundConstants)]
theorem ownD : ownKnob Tryz.prog.godebug = none := by kernel_rfl
theorem gStart : Tryz.prog.globalNamed "stolon/digest.start" = some 1 := by kernel_rfl
theorem gRound : Tryz.prog.globalNamed "stolon/digest.roundConstants" = some 2 := by kernel_rfl
theorem tStart : (Tryz.prog.globals[1]?).map (·.type) = some 180 := by kernel_rfl
theorem tRound : (Tryz.prog.globals[2]?).map (·.type) = some 179 := by kernel_rfl
theorem cU32 : Tryz.prog.cellsOf 144 = 1 := by kernel_rfl
theorem cStart : Tryz.prog.cellsOf 180 = 8 := by kernel_rfl
theorem cRound : Tryz.prog.cellsOf 179 = 64 := by kernel_rfl
theorem dStart : Rows.laid_stolon_digest_start (H := Unit) = Lib.tabData .u32 (shaStart.map fun (n : Nat) => (n : Int)) := by kernel_rfl
theorem dRound : Rows.laid_stolon_digest_roundConstants (H := Unit) = Lib.tabData .u32 (shaRound.map fun (n : Nat) => (n : Int)) := by kernel_rfl
theorem range_of_tab {W : World} {name : String} {l : List Nat} {g : Nat} (h : Lib.TabIs Tryz.prog W name .u32 (l.map fun (n : Nat) => (n : Int))) (hg : Tryz.prog.globalNamed name = some g) : W.rangeAt g 0 (u32s l) := fun j v hj => by
  have hjl : j < l.length := by have := (List.getElem?_eq_some_iff.1 hj).1; simpa [u32s] using this
  have h1 := h.cell hg j (by simpa using hjl)
  rw [Nat.zero_add, h1, ← hj]
  simp [u32s, hjl]
theorem vars_of_laid {W : World} (h : laidMetH Tryz.prog laidA W) : Vars W shaRound shaStart := by
  rw [MakeChecks.laidMetH_plain _ _ _ (by kernel_rfl)] at h
  have h1 : laidMet Tryz.prog (("stolon/digest.start", Lib.tabData .u32 (shaStart.map fun (n : Nat) => (n : Int))) :: ("stolon/digest.roundConstants", Lib.tabData .u32 (shaRound.map fun (n : Nat) => (n : Int))) :: []) W := by
    rw [← dStart, ← dRound]; exact h
  have h2 := h1.tail
  have r1 := range_of_tab (Lib.tabIs_of_head gStart tStart Tryz.underlying180 Tryz.underlying144 cU32 cStart h1) gStart
  have r2 := range_of_tab (Lib.tabIs_of_head gRound tRound Tryz.underlying179 Tryz.underlying144 cU32 cRound h2) gRound
  have b1 : ∀ x ∈ shaStart, x < 4294967296 := by decide
  have b2 : ∀ x ∈ shaRound, x < 4294967296 := by decide
  have hg : ∀ (l : List Nat), (∀ x ∈ l, x < 4294967296) → ∀ i, l.getD i 0 < 4294967296 := fun l hl i => by
    rw [List.getD_eq_getElem?_getD]
    by_cases h : i < l.length
    · rw [List.getElem?_eq_getElem h]; exact hl _ (List.getElem_mem _)
    · rw [List.getElem?_eq_none (by omega)]; decide
  have hc := r2 0 (.int .u32 ((shaRound.getD 0 0 : Nat) : Int)) (by rfl)
  exact ⟨r1, r2, World.block_lt_of_cell? _ _ hc, rfl, rfl, hg _ b2, hg _ b1⟩
theorem door_metA (os : Os) (args : Array Value) : laidMetH Tryz.prog laidA ((World.doorLaid Tryz.prog 24 os).forCall (fun _ _ => 0) ⟨#[], args, []⟩).memory :=
  laidMetH_of_parts3 (fuel := 8) (laidMet_of_run' 8 (by kernel_rfl) (by kernel_rfl)) (by kernel_rfl) (by kernel_rfl)
end Go.Proofs.YtjgiiciniplbnaaGreatDoor

namespace Go.Proofs.YtjgiiciniplbnaaGreatDoor
open Go Go.RowKit Go.Lib Go.Sort
set_option linter.unusedVariables false

theorem cb_range : ∀ a b : List UInt8, compareBytes a b = -1 ∨ compareBytes a b = 0 ∨ compareBytes a b = 1
  | [], [] => by simp [compareBytes]
  | [], _ :: _ => by simp [compareBytes]
  | _ :: _, [] => by simp [compareBytes]
  | a :: xs, b :: ys => by
    unfold compareBytes
    split
    · simp
    · split
      · simp
      · exact cb_range xs ys
theorem cb_refl : ∀ a : List UInt8, compareBytes a a = 0
  | [] => rfl
  | a :: xs => by
    unfold compareBytes
    have h : ¬ a < a := by simp
    rw [if_neg h, if_neg h]
    exact cb_refl xs
theorem cb_neg : ∀ a b : List UInt8, compareBytes b a = - compareBytes a b
  | [], [] => rfl
  | [], _ :: _ => rfl
  | _ :: _, [] => rfl
  | a :: xs, b :: ys => by
    unfold compareBytes
    by_cases h1 : a < b
    · have h2 : ¬ b < a := by simp only [UInt8.lt_iff_toNat_lt] at *; omega
      rw [if_pos h1, if_neg h2, if_pos h1]; rfl
    · by_cases h2 : b < a
      · rw [if_pos h2, if_neg h1, if_pos h2]
      · rw [if_neg h2, if_neg h1, if_neg h1, if_neg h2]
        exact cb_neg xs ys
theorem cb_zero : ∀ a b : List UInt8, compareBytes a b = 0 → a = b
  | [], [], _ => rfl
  | [], _ :: _, h => by simp [compareBytes] at h
  | _ :: _, [], h => by simp [compareBytes] at h
  | a :: xs, b :: ys, h => by
    unfold compareBytes at h
    by_cases h1 : a < b
    · rw [if_pos h1] at h; omega
    · by_cases h2 : b < a
      · rw [if_neg h1, if_pos h2] at h; omega
      · rw [if_neg h1, if_neg h2] at h
        have e : a = b := by
          apply UInt8.toNat_inj.1
          simp only [UInt8.lt_iff_toNat_lt] at h1 h2
          omega
        rw [e, cb_zero xs ys h]
theorem cb_trans : ∀ a b c : List UInt8, compareBytes a b < 0 → compareBytes b c < 0 → compareBytes a c < 0
  | [], [], _, h, _ => by simp [compareBytes] at h
  | [], _ :: _, [], _, h => by simp [compareBytes] at h
  | [], _ :: _, _ :: _, _, _ => by simp [compareBytes]
  | _ :: _, [], _, h, _ => by simp [compareBytes] at h
  | _ :: _, _ :: _, [], _, h => by simp [compareBytes] at h
  | a :: xs, b :: ys, c :: zs, h, k => by
    unfold compareBytes at *
    simp only [UInt8.lt_iff_toNat_lt] at *
    by_cases h1 : a.toNat < b.toNat
    · by_cases k1 : b.toNat < c.toNat
      · rw [if_pos (by omega)]; omega
      · by_cases k2 : c.toNat < b.toNat
        · rw [if_neg k1, if_pos k2] at k; omega
        · rw [if_pos (by omega)]; omega
    · by_cases h2 : b.toNat < a.toNat
      · rw [if_neg h1, if_pos h2] at h; omega
      · rw [if_neg h1, if_neg h2] at h
        by_cases k1 : b.toNat < c.toNat
        · rw [if_pos (by omega)]; omega
        · by_cases k2 : c.toNat < b.toNat
          · rw [if_neg k1, if_pos k2] at k; omega
          · rw [if_neg k1, if_neg k2] at k
            rw [if_neg (by omega), if_neg (by omega)]
            exact cb_trans xs ys zs h k

/-- numbers as bytes -/
def bl (l : List Nat) : List UInt8 := l.map Nat.toUInt8
theorem bl_ints (l : List Nat) : bytesOf (l.map Int.ofNat) = bl l := by
  unfold bytesOf bl
  rw [List.map_map]
  apply List.map_congr_left
  intro x _
  simp
/-- how two ranks compare: scores s and t, numbers a and b -/
def cmpRk (s t : List Nat) (a b : Int) : Int := if compareBytes (bl s) (bl t) = 0 then compareInt a b else compareBytes (bl s) (bl t)
theorem cint_range (a b : Int) : compareInt a b = -1 ∨ compareInt a b = 0 ∨ compareInt a b = 1 := by
  unfold compareInt
  split
  · simp
  · split <;> simp
theorem cmpRk_neg (s t : List Nat) (a b : Int) : cmpRk t s b a = - cmpRk s t a b := by
  unfold cmpRk
  rw [cb_neg (bl s) (bl t)]
  have h : compareInt b a = - compareInt a b := by
    unfold compareInt
    by_cases h1 : a < b
    · have h2 : ¬ b < a := by omega
      simp [h1, h2]
    · by_cases h2 : b < a <;> simp [h1, h2]
  by_cases h0 : compareBytes (bl s) (bl t) = 0
  · rw [if_pos (by omega), if_pos h0, h]
  · rw [if_neg (by omega), if_neg h0]
theorem cmpRk_zero (s t : List Nat) (a b : Int) (h : cmpRk s t a b = 0) : a = b ∧ bl s = bl t := by
  unfold cmpRk at h
  by_cases h0 : compareBytes (bl s) (bl t) = 0
  · rw [if_pos h0] at h
    refine ⟨?_, cb_zero _ _ h0⟩
    unfold compareInt at h
    by_cases h1 : a < b
    · simp [h1] at h
    · by_cases h2 : a > b
      · simp [h1, h2] at h
      · omega
  · rw [if_neg h0] at h
    exact absurd h h0
theorem cmpRk_trans (s t u : List Nat) (a b c : Int) (h : cmpRk s t a b < 0) (k : cmpRk t u b c < 0) : cmpRk s u a c < 0 := by
  have hi : ∀ x y : Int, compareInt x y < 0 → x < y := fun x y q => by
    unfold compareInt at q
    by_cases h1 : x < y
    · exact h1
    · by_cases h2 : x > y <;> simp [h1, h2] at q
  have hi2 : ∀ x y : Int, x < y → compareInt x y < 0 := fun x y q => by unfold compareInt; simp [q]
  unfold cmpRk at *
  by_cases h0 : compareBytes (bl s) (bl t) = 0
  · rw [if_pos h0] at h
    have e := cb_zero _ _ h0
    rw [e]
    by_cases k0 : compareBytes (bl t) (bl u) = 0
    · rw [if_pos k0] at k
      rw [if_pos k0]
      exact hi2 _ _ (by have := hi _ _ h; have := hi _ _ k; omega)
    · rw [if_neg k0] at k ⊢
      exact k
  · rw [if_neg h0] at h
    by_cases k0 : compareBytes (bl t) (bl u) = 0
    · rw [← cb_zero _ _ k0, if_neg h0]
      exact h
    · rw [if_neg k0] at k
      have q := cb_trans _ _ _ h k
      rw [if_neg (by omega)]
      exact q
theorem cmpRk_self (s : List Nat) (a : Int) : cmpRk s s a a = 0 := by
  unfold cmpRk
  rw [if_pos (cb_refl _)]
  unfold compareInt
  simp
end Go.Proofs.YtjgiiciniplbnaaGreatDoor

namespace Go.Proofs.YtjgiiciniplbnaaGreatDoor
open Go Go.RowKit
set_option linter.unusedVariables false

def vcB (k n t : Int) : Bool := decide (1 ≤ k ∧ k ≤ n ∧ n ≤ t ∧ t ≤ 255)
set_option maxRecDepth 100000 in
set_option maxHeartbeats 2000000 in
theorem validCounts_any (k n t : Int) (w : World) :
    Calls Tryz.prog 84 #[.int .i64 k, .int .i64 n, .int .i64 t] w fun e w' => e = .returned (.bool (vcB k n t)) ∧ w = w' := by
  by_cases h1 : 1 ≤ k
  case neg =>
    have HB := hid (show vcB k n t = false from by unfold vcB; exact decide_eq_false (fun h => h1 h.1))
    go_enter Tryz.func84, Tryz.ntmps84
    go_wp2
    go_ret
    exact ⟨by rw [HB.out]; rfl, rfl⟩
  by_cases h2 : k ≤ n
  case neg =>
    have HB := hid (show vcB k n t = false from by unfold vcB; exact decide_eq_false (fun h => h2 h.2.1))
    go_enter Tryz.func84, Tryz.ntmps84
    go_wp2
    go_ret
    exact ⟨by rw [HB.out]; rfl, rfl⟩
  by_cases h3 : n ≤ t
  case neg =>
    have HB := hid (show vcB k n t = false from by unfold vcB; exact decide_eq_false (fun h => h3 h.2.2.1))
    go_enter Tryz.func84, Tryz.ntmps84
    go_wp2
    go_ret
    exact ⟨by rw [HB.out]; rfl, rfl⟩
  by_cases h4 : t ≤ 255
  case neg =>
    have HB := hid (show vcB k n t = false from by unfold vcB; exact decide_eq_false (fun h => h4 h.2.2.2))
    go_enter Tryz.func84, Tryz.ntmps84
    go_wp2
    go_ret
    exact ⟨by rw [HB.out]; rfl, rfl⟩
  have HB := hid (show vcB k n t = true from by unfold vcB; exact decide_eq_true ⟨h1, h2, h3, h4⟩)
  go_enter Tryz.func84, Tryz.ntmps84
  go_wp2
  go_ret
  exact ⟨by rw [HB.out]; rfl, rfl⟩

set_option maxRecDepth 100000 in
theorem manifestSize_any (t : Nat) (ht : t ≤ 100000) (w : World) :
    Calls Tryz.prog 119 #[.int .i64 (t : Int)] w fun e w' => e = .returned (.int .i64 ((7 + 32 * (1 + t) : Nat) : Int)) ∧ w = w' := by
  have t1 : IntKind.i64.wrap (1 + (t : Int)) = 1 + (t : Int) := by rw [IntKind.wrap_i64]; omega
  have t2 : IntKind.i64.wrap (32 * (1 + (t : Int))) = 32 * (1 + (t : Int)) := by rw [IntKind.wrap_i64]; omega
  have t3 : IntKind.i64.wrap (7 + 32 * (1 + (t : Int))) = ((7 + 32 * (1 + t) : Nat) : Int) := by rw [IntKind.wrap_i64]; omega
  generalize 7 + 32 * (1 + t) = z at *
  go_enter Tryz.func119, Tryz.ntmps119
  go_wp2
  go_ret
  exact ⟨rfl, rfl⟩

/-- a manifest's cells -/
def mcells (k n t s : Int) (od : List Nat) (v : Value) : List Value := [.int .i64 k, .int .i64 n, .int .i64 t, .int .i64 s] ++ u8s od ++ [v]
theorem mcells_length (k n t s : Int) (od : List Nat) (v : Value) (h : od.length = 32) : (mcells k n t s od v).length = 37 := by simp [mcells, u8s, h]
/-- a block that holds a manifest -/
def ManAt (w : World) (b : Nat) (k n t s : Int) (od : List Nat) (v : Value) : Prop := w.heap[b]? = some (.cells (mcells k n t s od v).toArray 62 (0, 0))
theorem ManAt.c {w : World} {b : Nat} {k n t s : Int} {od : List Nat} {v : Value} (M : ManAt w b k n t s od v) (h : od.length = 32) :
    w.cell? ⟨b, 0, none⟩ = some (.int .i64 k) ∧ w.cell? ⟨b, 1, none⟩ = some (.int .i64 n) ∧ w.cell? ⟨b, 2, none⟩ = some (.int .i64 t) ∧ w.cell? ⟨b, 3, none⟩ = some (.int .i64 s) ∧ w.cell? ⟨b, 36, none⟩ = some v := by
  refine ⟨?_, ?_, ?_, ?_, ?_⟩ <;> rw [cell_of_heap M] <;> simp [mcells, u8s, h]

def vnB (k n t s : Int) : Bool := vcB k n t && decide (0 ≤ s ∧ s ≤ 8192)
set_option maxRecDepth 100000 in
set_option maxHeartbeats 2000000 in
theorem validNumbers_any (k n t s : Int) (od : List Nat) (v : Value) (h : od.length = 32) (w : World) :
    Calls Tryz.prog 126 #[.agg (mcells k n t s od v).toArray] w fun e w' => e = .returned (.bool (vnB k n t s)) ∧ Below w.heap.size w w' := by
  have hM : ManAt (w.alloc (.cells (mcells k n t s od v).toArray 62)) w.heap.size k n t s od v := heap_new _ _
  obtain ⟨c0, c1, c2, c3, -⟩ := hM.c h
  have HB := hid ((Below.refl w.heap.size w).alloc (Nat.le_refl _) (.cells (mcells k n t s od v).toArray 62))
  obtain ⟨w1, hw1⟩ : ∃ w1, w1 = w.alloc (.cells (mcells k n t s od v).toArray 62) := ⟨_, rfl⟩
  rw [← hw1] at c0 c1 c2 c3 HB
  have HV := hid (validCounts_any k n t w1)
  have HE := hid (show vnB k n t s = (vcB k n t && decide (0 ≤ s ∧ s ≤ 8192)) from rfl)
  clear hM h
  go_enter Tryz.func126, Tryz.ntmps126
  go_upto_region 1 with fail
  change Code.wp _ _ _ _ (w.alloc (.cells (mcells k n t s od v).toArray 62))
  rw [← hw1]
  clear hw1
  go_wp2_with fail
  refine HV.out.mono ?_
  rintro e w2 ⟨rfl, rfl⟩
  generalize vcB k n t = b at *
  cases b with
  | false =>
    go_wp2
    go_ret
    exact ⟨by rw [HE.out]; rfl, HB.out⟩
  | true =>
    by_cases h1 : 0 ≤ s
    case neg =>
      have HE2 := hid (show vnB k n t s = false from by rw [HE.out, decide_eq_false (fun h => h1 h.1)]; rfl)
      go_wp2
      go_ret
      exact ⟨by rw [HE2.out]; rfl, HB.out⟩
    by_cases h2 : s ≤ 8192
    case neg =>
      have HE2 := hid (show vnB k n t s = false from by rw [HE.out, decide_eq_false (fun h => h2 h.2)]; rfl)
      go_wp2
      go_ret
      exact ⟨by rw [HE2.out]; show Ending.returned (.bool (decide (s ≤ 8192))) = _; simp [h2], HB.out⟩
    have HE2 := hid (show vnB k n t s = true from by rw [HE.out, decide_eq_true ⟨h1, h2⟩]; rfl)
    go_wp2
    go_ret
    exact ⟨by rw [HE2.out]; first | rfl | (show Ending.returned (.bool (decide (s ≤ 8192))) = _; simp [h2]), HB.out⟩

/-- is a manifest with so many digests valid -/
def manB (k n t s : Int) (m : Nat) : Bool := vnB k n t s && decide ((m : Int) = t)
def manE (k n t s : Int) (m : Nat) : Int := if manB k n t s m = true then 0 else 2
set_option maxRecDepth 100000 in
set_option maxHeartbeats 2000000 in
theorem CheckManifest_any (k n t s : Int) (od : List Nat) (a : Option Addr) (m c : Nat) (h : od.length = 32) (w : World) :
    Calls Tryz.prog 91 #[.agg (mcells k n t s od (.slice a m c)).toArray] w fun e w' => e = .returned (.int .i64 (manE k n t s m)) ∧ Below w.heap.size w w' := by
  have hM : ManAt (w.alloc (.cells (mcells k n t s od (.slice a m c)).toArray 62)) w.heap.size k n t s od (.slice a m c) := heap_new _ _
  have HM := hid hM
  obtain ⟨c0, c1, c2, c3, c36⟩ := hM.c h
  have HB := hid ((Below.refl w.heap.size w).alloc (Nat.le_refl _) (.cells (mcells k n t s od (.slice a m c)).toArray 62))
  have HIF := hid (show (Tryz.prog.info? 62).map (·.size) = some (mcells k n t s od (.slice a m c)).length from by rw [mcells_length _ _ _ _ _ _ h]; kernel_rfl)
  have HV := hid (fun w => validNumbers_any k n t s od (.slice a m c) h w)
  obtain ⟨w1, hw1⟩ : ∃ w1, w1 = w.alloc (.cells (mcells k n t s od (.slice a m c)).toArray 62) := ⟨_, rfl⟩
  rw [← hw1] at c2 c36 HB HM
  have HRA := hid (show w1.rangeAt w.heap.size 0 (mcells k n t s od (.slice a m c)) from fun j v hj => by
    rw [Nat.zero_add, cell_of_heap HM.out, List.getElem?_toArray]
    exact hj)
  have hs1 : w.heap.size < w1.heap.size := by rw [hw1]; simp
  have HE1 := hid (show vnB k n t s = false → manE k n t s m = 2 from fun e => by unfold manE manB; rw [e]; rfl)
  have HE2 := hid (show vnB k n t s = true → (m : Int) ≠ t → manE k n t s m = 2 from fun e e2 => by unfold manE manB; rw [e, decide_eq_false e2]; rfl)
  have HE3 := hid (show vnB k n t s = true → (m : Int) = t → manE k n t s m = 0 from fun e e2 => by unfold manE manB; rw [e, decide_eq_true e2]; rfl)
  clear hM c0 c1 c3 h
  go_enter Tryz.func91, Tryz.ntmps91
  go_upto_region 1 with fail
  change Code.wp _ _ _ _ (w.alloc (.cells (mcells k n t s od (.slice a m c)).toArray 62))
  rw [← hw1]
  clear hw1
  go_wp2_with (refine wpList_load_mid (by rfl) 62 (.tmp 1) (by rfl) w.heap.size 0 (by rfl) (mcells k n t s od (.slice a m c)) _ HRA.out Tryz.underlying62 rfl HIF.out ?_)
  refine (HV.out w1).mono ?_
  rintro e w2 ⟨rfl, hb2⟩
  have d2 := (hb2.cell (p := ⟨w.heap.size, 2, none⟩) hs1).trans c2
  have d36 := (hb2.cell (p := ⟨w.heap.size, 36, none⟩) hs1).trans c36
  have HB2 := hid (HB.out.trans (hb2.mono (by omega)))
  clear hb2 c2 c36
  generalize vnB k n t s = b at *
  cases b with
  | false =>
    have h1 := HE1.out rfl
    have HE := hid h1
    clear h1 HE1 HE2 HE3
    go_wp2
    go_ret
    exact ⟨by rw [HE.out]; rfl, HB2.out⟩
  | true =>
    by_cases hm : (m : Int) = t
    · have h1 := HE3.out rfl hm
      have HE := hid h1
      clear h1 HE1 HE2 HE3
      subst hm
      go_wp2
      go_ret
      exact ⟨by rw [HE.out]; rfl, HB2.out⟩
    · have h1 := HE2.out rfl hm
      have HE := hid h1
      clear h1 HE1 HE2 HE3
      go_wp2
      go_ret
      exact ⟨by rw [HE.out]; rfl, HB2.out⟩
end Go.Proofs.YtjgiiciniplbnaaGreatDoor

namespace Go.Proofs.YtjgiiciniplbnaaGreatDoor
open Go Go.RowKit
set_option linter.unusedVariables false

theorem mk_u8cH (l c : Nat) (hlc : l ≤ c) (hn : c ≤ 140737488355328) (w : World) : (Instr.makeSlice 66 (.int .i64 l) (.int .i64 c)).run Tryz.prog w = .ok (.slice (some ⟨w.heap.size, 0, none⟩) l c) (w.alloc (zrow c)) := by
  obtain ⟨i0, hi, hz0, hz1, hz2⟩ := info_parts info5
  have h := run_make (P := Tryz.prog) w 66 5 i0 (.int .u8 0) Tryz.underlying66 hi hz0 .i64 .i64 l c (by omega) (by omega) (by rw [hz2]; omega) (by omega)
  rw [h, hz1]
  simp only [Int.toNat_natCast, Nat.mul_one, Value.cells, made_u8]
  rfl
/-- appending bytes to a row of one's own (as in Red) -/
theorem step_own_bytesH {ops : Array Oper} {o : Oper} {a : Act} {w : World} {K : Act → World → Prop} {Q : Exit → Act → World → Prop} {E : Prop} (hgd : o.guard = none) (s x : Operand)
    (ho : o.op = .call { callee := .builtin .append, args := #[s, x], argTypes := #[66, 66] }) (base n0 : Nat) (v0 : Value) (l0 : List Nat) (hs : a.eval s = v0) (hown : w.ownsRow base 5 1 v0 n0 (u8s l0))
    (sa : Option Addr) (m c : Nat) (l : List Nat) (hx : a.eval x = .slice sa m c) (hb : Bs w (.slice sa m c) l) (hnil : sa = none → c = 0) (hm : n0 + m ≤ 461168601842) (hbase : base ≤ w.heap.size)
    (hK : ∀ v' w', w'.ownsRow base 5 1 v' (n0 + m) (u8s (l0 ++ l)) → w.grownBy w' v0.ownBlock → K (a.put o.dst v') w') :
    if Region.wanted o (yielded ops a.tmps) = true then Oper.wp Tryz.prog o a w K Q else E := by
  have hw : Region.wanted o (yielded ops a.tmps) = true := by simp [Region.wanted, hgd]
  rw [if_pos hw]
  obtain ⟨i0, hi, hz0, hz1, hz2⟩ := info_parts info5
  have hlen := hb.len
  have hap : u8s (l0 ++ l) = u8s l0 ++ u8s l := by simp [u8s]
  cases sa with
  | none =>
    obtain rfl := hnil rfl
    have h0 : l = [] := by
      rcases hb.addr with ⟨h0, _⟩ | ⟨_, b, o', c', hv⟩
      · exact h0
      · simp at hv
    subst h0
    obtain rfl : m = 0 := hlen
    have hrun := run_append_owned_none (P := Tryz.prog) (w := w) base 66 o.type 5 i0 1 Tryz.underlying66 hi v0 n0 (u8s l0) hown
    unfold Oper.wp
    simp [execOp, ho, resolve, invoke, builtin, hs, hx, hrun, Result.andThen]
    refine hK _ _ ?_ (World.grownBy.refl w _)
    rw [List.append_nil, Nat.add_zero]
    exact hown
  | some ad =>
    have hnews : ∀ j u, (u8s l)[j]? = some u → w.cell? (ad.add j) = some u := fun j u hj => by
      have hjl : j < l.length := by have := (List.getElem?_eq_some_iff.1 hj).1; simpa [u8s] using this
      rcases hb.addr with ⟨h0, _⟩ | ⟨_, b, o', c', hv⟩
      · rw [h0] at hjl; exact absurd hjl (Nat.not_lt_zero _)
      · simp only [Value.slice.injEq, Option.some.injEq] at hv
        obtain ⟨rfl, _, _⟩ := hv
        have hc := hb.cell j hjl
        have e : (⟨b, o', none⟩ : Addr).add j = ⟨b, o' + j, none⟩ := by unfold Addr.add; split <;> simp_all
        rw [e, hc, ← hj]
        simp [u8s, List.getElem?_eq_getElem hjl]
    refine wp_append_own w s x _ ho base 5 i0 (.int .u8 0) 1 1 Tryz.underlying66 hi hz0 hz1 hz2 rfl (by decide) _ n0 (u8s l0) hs hown ad m c (u8s l) hx (by simp [u8s]; omega) hnews (fun u hu => by
      unfold u8s at hu
      obtain ⟨y, _, rfl⟩ := List.mem_map.1 hu
      rfl) (by unfold maxLen; omega) (by omega) hbase ?_
    intro v' w' hown' hg hn
    rw [← hap] at hown'
    exact hK v' w' hown' hg
/-- the same, with where the new row lies; something is appended -/
theorem step_own_lies {ops : Array Oper} {o : Oper} {a : Act} {w : World} {K : Act → World → Prop} {Q : Exit → Act → World → Prop} {E : Prop} (hgd : o.guard = none) (s x : Operand)
    (ho : o.op = .call { callee := .builtin .append, args := #[s, x], argTypes := #[66, 66] }) (base n0 : Nat) (v0 : Value) (l0 : List Nat) (hs : a.eval s = v0) (hown : w.ownsRow base 5 1 v0 n0 (u8s l0))
    (sb so : Nat) (m c : Nat) (l : List Nat) (hx : a.eval x = .slice (some ⟨sb, so, none⟩) m c) (hb : Bs w (.slice (some ⟨sb, so, none⟩) m c) l) (hm0 : 0 < m) (hm : n0 + m ≤ 461168601842) (hbase : base ≤ w.heap.size)
    (hK : ∀ g cap w', w'.ownsRow base 5 1 (.slice (some ⟨g, 0, none⟩) (n0 + m) cap) (n0 + m) (u8s (l0 ++ l)) → w.grownBy w' v0.ownBlock → (v0.ownBlock = some g ∨ g = w.heap.size) → g < w'.heap.size → K (a.put o.dst (.slice (some ⟨g, 0, none⟩) (n0 + m) cap)) w') :
    if Region.wanted o (yielded ops a.tmps) = true then Oper.wp Tryz.prog o a w K Q else E := by
  have hw : Region.wanted o (yielded ops a.tmps) = true := by simp [Region.wanted, hgd]
  rw [if_pos hw]
  obtain ⟨i0, hi, hz0, hz1, hz2⟩ := info_parts info5
  have hlen := hb.len
  have hap : u8s (l0 ++ l) = u8s l0 ++ u8s l := by simp [u8s]
  have hnews : ∀ j u, (u8s l)[j]? = some u → w.cell? ((⟨sb, so, none⟩ : Addr).add j) = some u := fun j u hj => by
    have hjl : j < l.length := by have := (List.getElem?_eq_some_iff.1 hj).1; simpa [u8s] using this
    have hc := hb.cell j hjl
    have e : (⟨sb, so, none⟩ : Addr).add j = ⟨sb, so + j, none⟩ := by unfold Addr.add; split <;> simp_all
    rw [e, hc, ← hj]
    simp [u8s, List.getElem?_eq_getElem hjl]
  refine wp_append_lies w s x _ ho base 5 i0 (.int .u8 0) 1 1 Tryz.underlying66 hi hz0 hz1 hz2 rfl (by decide) _ n0 (u8s l0) hs hown ⟨sb, so, none⟩ m c (u8s l) hx (by simp [u8s]; omega) hnews (fun u hu => by
    unfold u8s at hu
    obtain ⟨y, _, rfl⟩ := List.mem_map.1 hu
    rfl) hm0 (by unfold maxLen; omega) (by omega) hbase _ rfl ?_
  intro g cap w' hown' hg hat hlt
  rw [← hap] at hown'
  exact hK g cap w' hown' hg hat hlt
end Go.Proofs.YtjgiiciniplbnaaGreatDoor

namespace Go.Proofs.YtjgiiciniplbnaaGreatDoor
open Go Go.RowKit
set_option linter.unusedVariables false

/-- a Writer in memory: its limit, its data (a row of its own), whether it failed -/
structure WrAt (w : World) (wb lim : Nat) (v : Value) (l : List Nat) (f : Bool) : Prop where
  at_ : w.heap[wb]? = some (.cells #[.int .i64 (lim : Int), v, .bool f] 227 (0, 0))
  own : w.ownsRow (wb + 1) 5 1 v l.length (u8s l)
  lt : ∀ n ∈ l, n < 256
  fit : l.length ≤ lim
  cap : lim ≤ 100000000000
/-- everything but the Writer and its row is as it was -/
structure KeptR (wb : Nat) (v : Value) (w w' : World) : Prop where
  os : w'.os = w.os
  tape : w'.tape = w.tape
  output : w'.output = w.output
  size : w.heap.size ≤ w'.heap.size
  block : ∀ k, k < w.heap.size → k ≠ wb → v.ownBlock ≠ some k → w'.heap[k]? = w.heap[k]?
/-- the row behind a step is the row before it, or a new one -/
def SameRow (w : World) (v v' : Value) : Prop := ∀ k, v'.ownBlock = some k → v.ownBlock = some k ∨ w.heap.size ≤ k
theorem SameRow.refl (w : World) (v : Value) : SameRow w v v := fun k h => .inl h
theorem KeptR.refl (wb : Nat) (v : Value) (w : World) : KeptR wb v w w := ⟨rfl, rfl, rfl, Nat.le_refl _, fun _ _ _ _ => rfl⟩
theorem KeptR.setCell {wb : Nat} {v : Value} {w w' : World} (h : KeptR wb v w w') (i : Nat) (u : Value) : KeptR wb v w (w'.setCell ⟨wb, i, none⟩ u) :=
  ⟨h.os, h.tape, h.output, by simpa using h.size, fun k hk hb hv => by rw [heap_setCell_other w' _ k _ hb]; exact h.block k hk hb hv⟩
theorem KeptR.trans {wb : Nat} {v v' : Value} {x y z : World} (h : KeptR wb v x y) (s : SameRow x v v') (k : KeptR wb v' y z) : KeptR wb v x z :=
  ⟨k.os.trans h.os, k.tape.trans h.tape, k.output.trans h.output, Nat.le_trans h.size k.size, fun i hi hb hv =>
    (k.block i (Nat.lt_of_lt_of_le hi h.size) hb (fun e => by
      rcases s i e with e | e
      · exact hv e
      · omega)).trans (h.block i hi hb hv)⟩
theorem SameRow.trans {x y : World} {v v' v'' : Value} (h : SameRow x v v') (hs : x.heap.size ≤ y.heap.size) (k : SameRow y v' v'') : SameRow x v v'' := fun i hi => by
  rcases k i hi with e | e
  · exact h i e
  · exact .inr (by omega)
theorem KeptR.below {wb B : Nat} {v : Value} {w w' : World} (h : KeptR wb v w w') (hB : B ≤ w.heap.size) (hb : B ≤ wb) (hv : ∀ k, v.ownBlock = some k → B ≤ k) : Below B w w' :=
  ⟨h.os, h.tape, h.output, h.size, fun k hk => h.block k (by omega) (by omega) (fun e => by have := hv k e; omega)⟩
theorem WrAt.lt_size {w : World} {wb lim : Nat} {v : Value} {l : List Nat} {f : Bool} (W : WrAt w wb lim v l f) : wb < w.heap.size := lt_of_heap W.at_
theorem WrAt.sl {w : World} {wb lim : Nat} {v : Value} {l : List Nat} {f : Bool} (W : WrAt w wb lim v l f) : ∃ a c, v = .slice a l.length c ∧ l.length ≤ c ∧ Bs w v l := by
  obtain ⟨a, c, h1, -, h3, h4, -⟩ := bs_of_owns W.own W.lt
  exact ⟨a, c, h1, h3, h4⟩
theorem WrAt.fail {w : World} {wb lim : Nat} {v : Value} {l : List Nat} {f : Bool} (W : WrAt w wb lim v l f) : WrAt (w.setCell ⟨wb, 2, none⟩ (.bool true)) wb lim v l true := by
  refine ⟨?_, ?_, W.lt, W.fit, W.cap⟩
  · have h := heap_setCell_same w wb 2 _ _ (.bool true) W.at_
    simpa using h
  · refine ⟨W.own.1, ?_⟩
    rcases W.own.2 with h | ⟨g, cap, cur, h1, h2, h3, h4⟩
    · exact .inl h
    · exact .inr ⟨g, cap, cur, h1, h2, by rw [heap_setCell_other w _ g _ (by show g ≠ wb; omega)]; exact h3, h4⟩

set_option maxRecDepth 100000 in
set_option maxHeartbeats 2000000 in
theorem NewWriter_any (lim : Nat) (hl : lim ≤ 100000000000) (w : World) :
    Calls Tryz.prog 118 #[.int .i64 (lim : Int)] w fun e w' => e = .returned (.pointer (some ⟨w.heap.size, 0, none⟩)) ∧ WrAt w' w.heap.size lim (.slice none 0 0) [] false ∧ Below w.heap.size w w' := by
  have HM := hid (show WrAt (w.alloc (.cells #[.int .i64 (lim : Int), .slice none 0 0, .bool false] 227)) w.heap.size lim (.slice none 0 0) [] false from ⟨heap_new _ _, World.ownsRow_nil _ _ _ _, fun n h => absurd h List.not_mem_nil, Nat.zero_le _, hl⟩)
  have h0 : (0 : Int) ≤ (lim : Int) := by omega
  go_enter Tryz.func118, Tryz.ntmps118
  go_wp2
  go_ret
  exact ⟨rfl, HM.out, (Below.refl _ _).alloc (Nat.le_refl _) _⟩

set_option maxRecDepth 100000 in
set_option maxHeartbeats 2000000 in
theorem fits_any (wb lim n : Nat) (v : Value) (l : List Nat) (f : Bool) (w : World) (W : WrAt w wb lim v l f) (hn : n ≤ 100000000000) :
    Calls Tryz.prog 147 #[.pointer (some ⟨wb, 0, none⟩), .int .i64 (n : Int)] w fun e w' => e = .returned (.bool (!(f || decide (lim < l.length + n)))) ∧ WrAt w' wb lim v l (f || decide (lim < l.length + n)) ∧ KeptR wb v w w' := by
  obtain ⟨a, c, rfl, hc, hb⟩ := W.sl
  have c0 : w.cell? ⟨wb, 0, none⟩ = some (.int .i64 (lim : Int)) := by rw [cell_of_heap W.at_]; rfl
  have c1 : w.cell? ⟨wb, 1, none⟩ = some (.slice a l.length c) := by rw [cell_of_heap W.at_]; rfl
  have c2 : w.cell? ⟨wb, 2, none⟩ = some (.bool f) := by rw [cell_of_heap W.at_]; rfl
  have f2 := free_of_heap W.at_ 2
  have h1 := W.fit
  have h2 := W.cap
  have HW := hid W
  clear W hb
  generalize l.length = m at *
  have t1 : IntKind.i64.wrap ((lim : Int) - (m : Int)) = (lim : Int) - (m : Int) := by rw [IntKind.wrap_i64]; omega
  by_cases hf : lim < m + n
  · have hd : (lim : Int) - (m : Int) < (n : Int) := by omega
    go_enter Tryz.func147, Tryz.ntmps147
    go_wp2
    go_quiet (fail)
    have F2 : (w.drewN nq).frozen? ⟨wb, 2, none⟩ = false := f2
    have C2 : (w.drewN nq).cell? ⟨wb, 2, none⟩ = some (.bool f) := c2
    have HX := hid (show WrAt (w.drewN nq) wb lim (.slice a m c) l f from ⟨HW.out.at_, HW.out.own, HW.out.lt, HW.out.fit, HW.out.cap⟩)
    have HK := hid (show KeptR wb (.slice a m c) w (w.drewN nq) from ⟨rfl, rfl, rfl, Nat.le_refl _, fun _ _ _ _ => rfl⟩)
    generalize w.drewN nq = w2 at *
    go_wp2
    go_ret
    have e : decide (lim < m + n) = true := by simpa using hf
    refine ⟨?_, ?_, ?_⟩
    · rw [e, Bool.or_true]; rfl
    · rw [e, Bool.or_true]; exact HX.out.fail
    · exact HK.out.setCell 2 _
  · have hd : ¬ ((lim : Int) - (m : Int) < (n : Int)) := by omega
    go_enter Tryz.func147, Tryz.ntmps147
    go_wp2
    go_quiet (fail)
    have C2 : (w.drewN nq).cell? ⟨wb, 2, none⟩ = some (.bool f) := c2
    have HX := hid (show WrAt (w.drewN nq) wb lim (.slice a m c) l f from ⟨HW.out.at_, HW.out.own, HW.out.lt, HW.out.fit, HW.out.cap⟩)
    have HK := hid (show KeptR wb (.slice a m c) w (w.drewN nq) from ⟨rfl, rfl, rfl, Nat.le_refl _, fun _ _ _ _ => rfl⟩)
    generalize w.drewN nq = w2 at *
    go_wp2
    go_ret
    have e : decide (lim < m + n) = false := by simpa using hf
    refine ⟨?_, ?_, ?_⟩
    · rw [e, Bool.or_false]; rfl
    · rw [e, Bool.or_false]; exact HX.out
    · exact HK.out
end Go.Proofs.YtjgiiciniplbnaaGreatDoor

namespace Go.Proofs.YtjgiiciniplbnaaGreatDoor
open Go Go.RowKit
set_option linter.unusedVariables false

/-- the lowest n bytes of x, the highest of them first -/
def beB (x n i : Nat) : Nat := x / 2 ^ (8 * (n - 1 - i)) % 256
def beL (x n : Nat) : List Nat := (List.range n).map (beB x n)
theorem beL_length (x n : Nat) : (beL x n).length = n := by simp [beL]
theorem beL_lt (x n : Nat) : ∀ y ∈ beL x n, y < 256 := fun y h => by
  obtain ⟨i, _, rfl⟩ := List.mem_map.1 h
  exact Nat.mod_lt _ (by decide)
def beTo (x n i : Nat) : List Nat := (List.range i).map (beB x n)
theorem beTo_succ (x n i : Nat) : beTo x n (i + 1) = beTo x n i ++ [beB x n i] := by simp [beTo, List.range_succ]
theorem beTo_length (x n i : Nat) : (beTo x n i).length = i := by simp [beTo]
/-- the data and whether it failed, behind an attempt to add bytes -/
def wadd (lim : Nat) (l : List Nat) (f : Bool) (bs : List Nat) : List Nat × Bool := if (f || decide (lim < l.length + bs.length)) = true then (l, true) else (l ++ bs, false)

theorem KeptR.drewN {wb : Nat} {v : Value} {w w' : World} (h : KeptR wb v w w') (n : Nat) : KeptR wb v w (w'.drewN n) := ⟨h.os, h.tape, h.output, h.size, h.block⟩
/-- what an append to the row and the store of its slice leave -/
theorem WrAt.grown {w w1 w2 : World} {wb lim : Nat} {v v' : Value} {l bs : List Nat} (W : WrAt w wb lim v l false) (hw1 : ∀ k, k < w.heap.size → w1.heap[k]? = w.heap[k]?) (hs1 : w.heap.size ≤ w1.heap.size) (ho : w1.os = w.os) (ht : w1.tape = w.tape) (hu : w1.output = w.output)
    (hown : w2.ownsRow (wb + 1) 5 1 v' (l.length + bs.length) (u8s (l ++ bs))) (hg : w1.grownBy w2 v.ownBlock) (hb : ∀ n ∈ bs, n < 256) (hf : l.length + bs.length ≤ lim) (hsr : SameRow w v v') :
    WrAt (w2.setCell ⟨wb, 1, none⟩ v') wb lim v' (l ++ bs) false ∧ KeptR wb v w (w2.setCell ⟨wb, 1, none⟩ v') := by
  have hlt := W.lt_size
  have hne : some wb ≠ v.ownBlock := fun e => by have := (W.own.lt wb e.symm).1; omega
  have h1 : w2.heap[wb]? = _ := (hg.block wb (by omega) hne).trans ((hw1 wb hlt).trans W.at_)
  refine ⟨⟨?_, ?_, ?_, by simpa using hf, W.cap⟩, ?_⟩
  · have h := heap_setCell_same w2 wb 1 _ _ v' h1
    simpa using h
  · rw [List.length_append]
    refine ⟨hown.1, ?_⟩
    rcases hown.2 with h | ⟨g, cap, cur, h1, h2, h3, h4⟩
    · exact .inl h
    · exact .inr ⟨g, cap, cur, h1, h2, by rw [heap_setCell_other w2 _ g _ (by show g ≠ wb; omega)]; exact h3, h4⟩
  · intro n hn
    rcases List.mem_append.1 hn with h | h
    · exact W.lt n h
    · exact hb n h
  · exact KeptR.setCell ⟨hg.os.trans ho, hg.tape.trans ht, hg.output.trans hu, Nat.le_trans hs1 hg.size, fun k hk hkb hkv => (hg.block k (by omega) (fun e => hkv e.symm)).trans (hw1 k hk)⟩ 1 v'

set_option maxRecDepth 100000 in
set_option maxHeartbeats 4000000 in
theorem number_any (wb lim x n : Nat) (v : Value) (l : List Nat) (f : Bool) (w : World) (W : WrAt w wb lim v l f) (hn : n ≤ 8) (hx : x < 18446744073709551616) :
    Calls Tryz.prog 146 #[.pointer (some ⟨wb, 0, none⟩), .int .u64 (x : Int), .int .i64 (n : Int)] w fun e w' => e = .returned (.tuple #[]) ∧
      ∃ v', WrAt w' wb lim v' (wadd lim l f (beL x n)).1 (wadd lim l f (beL x n)).2 ∧ KeptR wb v w w' ∧ SameRow w v v' := by
  have HF := hid (fits_any wb lim n v l f w W (by omega))
  have HE := hid (show (f || decide (lim < l.length + n)) = true → wadd lim l f (beL x n) = (l, true) from fun h => by unfold wadd; rw [beL_length, if_pos h])
  have HE2 := hid (show (f || decide (lim < l.length + n)) = false → wadd lim l f (beL x n) = (l ++ beL x n, false) from fun h => by unfold wadd; rw [beL_length, if_neg (by rw [h]; decide)])
  have HFF := hid (show (f || decide (lim < l.length + n)) = false → l.length + n ≤ lim from fun h => by
    rw [Bool.or_eq_false_iff] at h
    have h2 := h.2
    simp only [decide_eq_false_iff_not] at h2
    omega)
  have hcap := W.cap
  have hlen0 := W.fit
  clear W
  go_enter Tryz.func146, Tryz.ntmps146
  go_wp2_with fail
  refine HF.out.mono ?_
  clear HF
  rintro e w2 ⟨rfl, hW2, hK2⟩
  generalize hb : (f || decide (lim < l.length + n)) = b at *
  clear hb
  have HW2 := hid hW2
  have HK2 := hid hK2
  clear hW2 hK2
  cases b with
  | true =>
    have h1 := HE.out rfl
    have HE3 := hid h1
    clear h1
    go_wp2
    refine bodyPost_ret (results_none rfl _ _ _) rfl ?_
    refine ⟨rfl, v, ?_, HK2.out, SameRow.refl _ _⟩
    rw [HE3.out]
    exact HW2.out
  | false =>
    have h1 := HE2.out rfl
    have hfit := HFF.out rfl
    have HE3 := hid h1
    clear h1 HE HE2 HFF
    go_wp2
    go_loopw [12] (fun iv wr => ∃ (i : Nat) (v' : Value), i ≤ n ∧ iv = .int .i64 i ∧ Hid (WrAt wr wb lim v' (l ++ beTo x n i) false) ∧ Hid (KeptR wb v w wr) ∧ Hid (SameRow w v v')) (fun iv _ => n - (intOf iv).toNat)
    case atStart => exact ⟨0, v, by omega, rfl, hid (by simpa [beTo] using HW2.out), HK2, hid (SameRow.refl _ _)⟩
    case round =>
      clear HW2 HK2
      obtain ⟨i, v', hi, rfl, HW, HK, HS⟩ := hrel
      by_cases hin : i < n
      · have hI : (i : Int) < (n : Int) := by omega
        obtain ⟨sh, hsh⟩ : ∃ sh, sh = 8 * (n - 1 - i) := ⟨_, rfl⟩
        have hs56 : sh ≤ 56 := by omega
        have t1 : IntKind.i64.wrap ((n : Int) - 1) = (n : Int) - 1 := by rw [IntKind.wrap_i64]; omega
        have t2 : IntKind.i64.wrap ((n : Int) - 1 - (i : Int)) = (n : Int) - 1 - (i : Int) := by rw [IntKind.wrap_i64]; omega
        have t3 : IntKind.i64.wrap (8 * ((n : Int) - 1 - (i : Int))) = (sh : Int) := by rw [IntKind.wrap_i64]; omega
        have t4 : 8 * ((n : Int) - 1 - (i : Int)) = (sh : Int) := by omega
        have t5 : (0 : Int) ≤ (sh : Int) := by omega
        have t6 : (sh : Int) ≤ 64 := by omega
        obtain ⟨y, hy⟩ : ∃ y, y = beB x n i := ⟨_, rfl⟩
        have hyl : y < 256 := by rw [hy]; exact Nat.mod_lt _ (by decide)
        have t10 : IntKind.i64.wrap (sh : Int) = (sh : Int) := by rw [IntKind.wrap_i64]; omega
        have hy2 : y = x / 2 ^ sh % 256 := by rw [hy, beB, ← hsh]
        have t9 : IntKind.u8.wrap ((x : Int) / 2 ^ sh) = (y : Int) := by
          have e : (x : Int) / 2 ^ sh = ((x / 2 ^ sh : Nat) : Int) := by norm_cast
          rw [e, IntKind.wrap_u8, hy2]
          omega
        obtain ⟨a, c, rfl, hc, hbs⟩ := HW.out.sl
        have hlt := HW.out.lt_size
        have c1 : wr.cell? ⟨wb, 1, none⟩ = some (.slice a (l ++ beTo x n i).length c) := by rw [cell_of_heap HW.out.at_]; rfl
        have f1 : wr.frozen? ⟨wb, 1, none⟩ = false := free_of_heap HW.out.at_ 1
        have hml : (l ++ beTo x n i).length = l.length + i := by rw [List.length_append, beTo_length]
        have HML := hid hml
        have HSU := hid (fun (_ : Unit) => (show (l ++ beTo x n i) ++ [y] = l ++ beTo x n (i + 1) from by rw [beTo_succ, hy, List.append_assoc]))
        have HOW := hid HW.out.own
        have HP := hid (show ∀ w' : World, w'.heap[wb]? = wr.heap[wb]? → w'.cell? ⟨wb, 1, none⟩ = some (.slice a (l ++ beTo x n i).length c) ∧ w'.frozen? ⟨wb, 1, none⟩ = false from fun w' h => ⟨by rw [World.cell?_of_block (a := ⟨wb, 1, none⟩) h]; exact c1, by rw [World.frozen?_of_block (a := ⟨wb, 1, none⟩) h]; exact f1⟩)
        have hy1 : ∀ z ∈ [y], z < 256 := fun z hz => by rw [List.mem_singleton.1 hz]; exact hyl
        have HY := hid hy1
        have HAR := hid (show some wb ≠ (Value.slice a (l ++ beTo x n i).length c).ownBlock from fun e => by have := (HW.out.own.lt wb e.symm).1; omega)
        have HFT := hid (show (l ++ beTo x n i).length + [y].length ≤ lim from by rw [hml]; show l.length + i + 1 ≤ lim; omega)
        have HNN := hid (show (l ++ beTo x n i).length + 1 ≤ 461168601842 from by rw [hml]; omega)
        clear hy hml hsh hbs hy1 hc hy2
        generalize l ++ beTo x n i = m at *
        generalize hk : m.length = k at *
        have HKK := hid hk
        clear hk
        go_wp2
        go_region_law
          (first
            | (refine step_own_lies (by rfl) (.tmp 19) (.tmp 28) (by rfl) (wb + 1) k (.slice a k c) m (by rfl) (by exact HOW.out.alloc _) wr.heap.size 0 1 1 [y] (by rfl) (Own.bs (l := [y]) (by exact heap_new _ _) HY.out 1) (by decide) HNN.out (by simp; omega) ?_
               intro g5 c5 w5 hown5 hg5 hat5 hlt5
               have hk5 := HP.out w5 ((hg5.block wb (by simp; omega) HAR.out).trans (by exact heap_alloc_old _ _ hlt))
               have k51 := hk5.1
               have k52 := hk5.2
               clear hk5))
        all_goals
          have hsr : SameRow wr (.slice a k c) (.slice (some ⟨g5, 0, none⟩) (k + 1) c5) := fun q hq => by
            simp only [Value.ownBlock, Option.some.injEq] at hq
            subst hq
            rcases hat5 with h | h
            · exact .inl h
            · exact .inr (by rw [h]; simp)
          have hG := HW.out.grown (v' := .slice (some ⟨g5, 0, none⟩) (k + 1) c5) (bs := [y]) (by intro q hq; exact heap_alloc_old _ _ hq) (by simp) (by rfl) (by rfl) (by rfl) (by rw [HKK.out]; exact hown5) hg5 HY.out (by rw [HKK.out]; exact HFT.out) hsr
          rw [HSU.out ()] at hG
          have HW6 := hid hG.1
          have HK6 := hid (HK.out.trans HS.out hG.2)
          have HS6 := hid (HS.out.trans HK.out.size hsr)
          clear hG hsr hown5 hg5 hat5 hlt5
          go_wp2
          exact ⟨⟨i + 1, _, by omega, by go_num, HW6, HK6, HS6⟩, by simp [intOf]; omega⟩
      · obtain rfl : i = n := by omega
        go_wp2
        go_end0
        refine ⟨rfl, v', ?_, HK.out, HS.out⟩
        rw [HE3.out]
        exact HW.out
end Go.Proofs.YtjgiiciniplbnaaGreatDoor

namespace Go.Proofs.YtjgiiciniplbnaaGreatDoor
open Go Go.RowKit
set_option linter.unusedVariables false

/-- what an addition to a Writer leaves -/
def Added (wb lim : Nat) (v : Value) (l : List Nat) (f : Bool) (bs : List Nat) (w w' : World) : Prop := ∃ v', WrAt w' wb lim v' (wadd lim l f bs).1 (wadd lim l f bs).2 ∧ KeptR wb v w w' ∧ SameRow w v v'

set_option maxRecDepth 100000 in
theorem U8_any (wb lim x : Nat) (v : Value) (l : List Nat) (f : Bool) (w : World) (W : WrAt w wb lim v l f) (hx : x < 2 ^ 8) :
    Calls Tryz.prog 120 #[.pointer (some ⟨wb, 0, none⟩), .int .u8 (x : Int)] w fun e w' => e = .returned (.tuple #[]) ∧ Added wb lim v l f (beL x 1) w w' := by
  have HN := hid (number_any wb lim x 1 v l f w W (by omega) (Nat.lt_of_lt_of_le hx (by decide)))
  have h0 : IntKind.u64.wrap (x : Int) = (x : Int) := by rw [IntKind.wrap_u64]; omega
  clear W
  go_enter Tryz.func120, Tryz.ntmps120
  go_wp2_with fail
  refine HN.out.mono ?_
  rintro e w2 ⟨rfl, h⟩
  go_wp2
  go_end0
  exact ⟨rfl, h⟩

set_option maxRecDepth 100000 in
theorem U16_any (wb lim x : Nat) (v : Value) (l : List Nat) (f : Bool) (w : World) (W : WrAt w wb lim v l f) (hx : x < 2 ^ 16) :
    Calls Tryz.prog 121 #[.pointer (some ⟨wb, 0, none⟩), .int .u16 (x : Int)] w fun e w' => e = .returned (.tuple #[]) ∧ Added wb lim v l f (beL x 2) w w' := by
  have HN := hid (number_any wb lim x 2 v l f w W (by omega) (Nat.lt_of_lt_of_le hx (by decide)))
  have h0 : IntKind.u64.wrap (x : Int) = (x : Int) := by rw [IntKind.wrap_u64]; omega
  clear W
  go_enter Tryz.func121, Tryz.ntmps121
  go_wp2_with fail
  refine HN.out.mono ?_
  rintro e w2 ⟨rfl, h⟩
  go_wp2
  go_end0
  exact ⟨rfl, h⟩
end Go.Proofs.YtjgiiciniplbnaaGreatDoor

namespace Go.Proofs.YtjgiiciniplbnaaGreatDoor
open Go Go.RowKit
set_option linter.unusedVariables false

theorem Bs.keptR {w w' : World} {wb n c : Nat} {a : Option Addr} {vr : Value} {l : List Nat} (h : Bs w (.slice a n c) l) (k : KeptR wb vr w w') (ho : ∀ ad, a = some ad → 0 < n → ad.block ≠ wb ∧ vr.ownBlock ≠ some ad.block) : Bs w' (.slice a n c) l := by
  have hn := h.len
  obtain ⟨a', c', h1, h2, h3⟩ := h
  simp only [Value.slice.injEq] at h1
  obtain ⟨rfl, h11, rfl⟩ := h1
  refine ⟨_, _, by rw [← hn], h2, fun hl => ?_⟩
  obtain ⟨b, o, ha, hc⟩ := h3 hl
  refine ⟨b, o, ha, fun i hi => ?_⟩
  have h4 := hc i hi
  obtain ⟨h5, h6⟩ := ho _ ha (by omega)
  rw [World.cell?_of_block (a := ⟨b, o + i, none⟩) (k.block b (World.block_lt_of_cell? _ _ h4) h5 h6)]
  exact h4
theorem wpList_raw {ops : Array Oper} {rest : List Oper} {o : Oper} {a : Act} {w : World} {Q : Exit → Act → World → Prop} (hgd : o.guard = none) (s x : Operand)
    (ho : o.op = .call { callee := .builtin .append, args := #[s, x], argTypes := #[66, 66] }) (base n0 : Nat) (v0 : Value) (l0 : List Nat) (hs : a.eval s = v0) (hown : w.ownsRow base 5 1 v0 n0 (u8s l0))
    (sa : Option Addr) (m c : Nat) (l : List Nat) (hx : a.eval x = .slice sa m c) (hb : Bs w (.slice sa m c) l) (hnil : sa = none → c = 0) (hm : n0 + m ≤ 461168601842) (hbase : base ≤ w.heap.size)
    (hK : ∀ v' w', w'.ownsRow base 5 1 v' (n0 + m) (u8s (l0 ++ l)) → w.grownBy w' v0.ownBlock → SameRow w v0 v' → wpList Tryz.prog ops Q rest (a.put o.dst v') w') :
    wpList Tryz.prog ops Q (o :: rest) a w := by
  obtain ⟨i0, hi, hz0, hz1, hz2⟩ := info_parts info5
  have hlen := hb.len
  have hap : u8s (l0 ++ l) = u8s l0 ++ u8s l := by simp [u8s]
  cases sa with
  | none =>
    obtain rfl := hnil rfl
    rcases hb.addr with ⟨h0, _⟩ | ⟨_, b, o, c', hv⟩
    · subst h0
      obtain rfl : m = 0 := hlen
      refine Go.wpList_append_own_none hgd s x _ ho base _ i0 1 Tryz.underlying66 hi _ n0 (u8s l0) hs hown hx ?_
      refine hK _ _ ?_ (World.grownBy.refl w _) (SameRow.refl _ _)
      rw [List.append_nil, Nat.add_zero]
      exact hown
    · simp at hv
  | some ad =>
    have hnews : ∀ j u, (u8s l)[j]? = some u → w.cell? (ad.add j) = some u := fun j u hj => by
      have hjl : j < l.length := by have := (List.getElem?_eq_some_iff.1 hj).1; simpa [u8s] using this
      rcases hb.addr with ⟨h0, _⟩ | ⟨_, b, o, c', hv⟩
      · rw [h0] at hjl; exact absurd hjl (Nat.not_lt_zero _)
      · simp only [Value.slice.injEq, Option.some.injEq] at hv
        obtain ⟨rfl, _, _⟩ := hv
        have hc := hb.cell j hjl
        have e : (⟨b, o, none⟩ : Addr).add j = ⟨b, o + j, none⟩ := by unfold Addr.add; split <;> simp_all
        rw [e, hc, ← hj]
        simp [u8s, List.getElem?_eq_getElem hjl]
    refine Go.wpList_append_own_at w hgd s x _ ho base 5 i0 (.int .u8 0) 1 1 Tryz.underlying66 hi hz0 hz1 hz2 rfl (by decide) _ n0 (u8s l0) hs hown ad m c (u8s l) hx (by simp [u8s]; omega) hnews (fun u hu => by
      unfold u8s at hu
      obtain ⟨y, _, rfl⟩ := List.mem_map.1 hu
      rfl) (by unfold maxLen; omega) (by omega) hbase ?_
    intro v' w' hown' hg _ hat
    rw [← hap] at hown'
    refine hK v' w' hown' hg (fun q hq => ?_)
    rcases hat with h | h
    · exact .inl (h ▸ hq)
    · exact .inr (by rw [h] at hq; exact Nat.le_of_eq (Option.some.inj hq))

set_option maxRecDepth 100000 in
set_option maxHeartbeats 2000000 in
theorem Raw_any (wb lim n c : Nat) (a : Option Addr) (v : Value) (l bs : List Nat) (f : Bool) (w : World) (W : WrAt w wb lim v l f) (hb : Bs w (.slice a n c) bs) (hnil : a = none → c = 0) (hn : n ≤ 100000000000) (ho : ∀ ad, a = some ad → 0 < n → ad.block ≠ wb ∧ v.ownBlock ≠ some ad.block) :
    Calls Tryz.prog 122 #[.pointer (some ⟨wb, 0, none⟩), .slice a n c] w fun e w' => e = .returned (.tuple #[]) ∧ Added wb lim v l f bs w w' := by
  have HF := hid (fits_any wb lim n v l f w W hn)
  have hlen := hb.len
  have HE := hid (show (f || decide (lim < l.length + n)) = true → wadd lim l f bs = (l, true) from fun h => by unfold wadd; rw [← hlen, if_pos h])
  have HE2 := hid (show (f || decide (lim < l.length + n)) = false → wadd lim l f bs = (l ++ bs, false) from fun h => by unfold wadd; rw [← hlen, if_neg (by rw [h]; decide)])
  have HFF := hid (show (f || decide (lim < l.length + n)) = false → l.length + n ≤ lim ∧ f = false from fun h => by
    rw [Bool.or_eq_false_iff] at h
    have h2 := h.2
    simp only [decide_eq_false_iff_not] at h2
    exact ⟨by omega, h.1⟩)
  have hcap := W.cap
  have HB := hid hb
  have HLEN := hid hlen
  have HO := hid ho
  have HNIL := hid hnil
  have HW := hid W
  clear hb hlen W ho hnil
  go_enter Tryz.func122, Tryz.ntmps122
  go_wp2_with fail
  refine HF.out.mono ?_
  clear HF
  rintro e w2 ⟨rfl, hW2, hK2⟩
  generalize hb : (f || decide (lim < l.length + n)) = b at *
  clear hb
  have HW2 := hid hW2
  have HK2 := hid hK2
  clear hW2 hK2
  cases b with
  | true =>
    have HE3 := hid (HE.out rfl)
    go_wp2
    go_end0
    refine ⟨rfl, v, ?_, HK2.out, SameRow.refl _ _⟩
    rw [HE3.out]
    exact HW2.out
  | false =>
    have hfit := (HFF.out rfl).1
    have HE3 := hid (HE2.out rfl)
    have hlt := HW2.out.lt_size
    have c1 : w2.cell? ⟨wb, 1, none⟩ = some v := by rw [cell_of_heap HW2.out.at_]; rfl
    have HP := hid (show ∀ w' : World, w'.heap[wb]? = w2.heap[wb]? → w'.cell? ⟨wb, 1, none⟩ = some v ∧ w'.frozen? ⟨wb, 1, none⟩ = false from fun w' h => ⟨by rw [World.cell?_of_block (a := ⟨wb, 1, none⟩) h]; exact c1, by rw [World.frozen?_of_block (a := ⟨wb, 1, none⟩) h]; exact free_of_heap HW2.out.at_ 1⟩)
    have HAR := hid (show some wb ≠ v.ownBlock from fun e => by have := (HW2.out.own.lt wb e.symm).1; omega)
    have HB2 := hid (HB.out.keptR HK2.out HO.out)
    have HFA := hid ((HFF.out rfl).2)
    have HSZ := hid (show l.length + n ≤ 461168601842 from by omega)
    have HWA := hid (show WrAt w2 wb lim v l false from HW2.out)
    have HFT := hid (show l.length + bs.length ≤ lim from by rw [← HLEN.out]; exact hfit)
    have hsz : wb + 1 ≤ w2.heap.size := hlt
    have HALL := hid (show ∀ z ∈ l ++ bs, z < 256 from fun z hz => by
      rcases List.mem_append.1 hz with h | h
      · exact HW2.out.lt z h
      · obtain ⟨_, _, _, h2, _⟩ := HB2.out
        exact h2 z h)
    clear HE HE2 HFF hfit
    go_wp2_with (refine wpList_raw (by rfl) (.tmp 12) (.tmp 13) (by rfl) (wb + 1) l.length v l (by rfl) HWA.out.own a n c bs (by rfl) HB2.out HNIL.out HSZ.out hsz ?_
                 intro v5 w5 hown5 hg5 hsr5
                 obtain ⟨a5, c5, e5, -, -, -, -⟩ := bs_of_owns hown5 HALL.out
                 subst e5
                 have hk5 := HP.out w5 (hg5.block wb hlt HAR.out)
                 have k51 := hk5.1
                 have k52 := hk5.2
                 clear hk5)
    have hG := HWA.out.grown (bs := bs) (by intro q hq; rfl) (Nat.le_refl _) (by rfl) (by rfl) (by rfl) (by rw [← HLEN.out]; exact hown5) hg5 (by obtain ⟨_, _, _, h, _⟩ := HB2.out; exact h) HFT.out hsr5
    go_end0
    refine ⟨rfl, _, ?_, HK2.out.trans (SameRow.refl _ _) hG.2, (SameRow.refl w v).trans HK2.out.size hsr5⟩
    rw [HE3.out]
    exact hG.1
end Go.Proofs.YtjgiiciniplbnaaGreatDoor

namespace Go.Proofs.YtjgiiciniplbnaaGreatDoor
open Go Go.RowKit
set_option linter.unusedVariables false

/-- a copy of bytes in memory of its own -/
def Copied (w : World) (n : Nat) (l : List Nat) (e : Value) (w' : World) : Prop := ∃ a c, e = .slice a n c ∧ n ≤ c ∧ Bs w' (.slice a n c) l ∧ (a = none → c = 0) ∧ (∀ ad, a = some ad → w.heap.size ≤ ad.block ∧ ad.block < w'.heap.size) ∧ Below w.heap.size w w'

set_option maxRecDepth 100000 in
set_option maxHeartbeats 2000000 in
theorem Clone_any (a : Option Addr) (n c : Nat) (l : List Nat) (w : World) (hb : Bs w (.slice a n c) l) (hnil : a = none → c = 0) (hn : n ≤ 100000000000) :
    Calls Tryz.prog 76 #[.slice a n c] w fun e w' => ∃ v, e = .returned v ∧ Copied w n l v w' := by
  cases a with
  | none =>
    obtain rfl := hnil rfl
    have h0 : l = [] := by
      rcases hb.addr with ⟨h0, _⟩ | ⟨_, b, o, c', hv⟩
      · exact h0
      · simp at hv
    subst h0
    have hn0 : n = 0 := hb.len
    subst hn0
    have HB := hid hb
    have hq : (binOp .eql 66 (.slice none 0 0) (.slice none 0 0)).run Tryz.prog w = .ok (.bool true) w := run_eql_slice_nil w _ _ none 0 0 Tryz.underlying66
    clear hb
    go_enter Tryz.func76, Tryz.ntmps76
    go_wp2
    go_ret
    exact ⟨_, rfl, none, 0, rfl, Nat.le_refl _, HB.out, fun _ => rfl, (fun ad h => by cases h), Below.refl _ _⟩
  | some ad =>
    have HB := hid (hb.alloc (.cells #[] 5))
    have HNW := hid (heap_new w (.cells #[] 5))
    have hq : (binOp .eql 66 (.slice (some ad) n c) (.slice none 0 0)).run Tryz.prog w = .ok (.bool false) w := run_eql_slice_nil w _ _ (some ad) n c Tryz.underlying66
    clear hb hnil
    go_enter Tryz.func76, Tryz.ntmps76
    go_wp2_with (refine wpList_clone (by rfl) (.tmp 5) (.tmp 6) (by rfl) w.heap.size (by rfl) HNW.out (some ad) n c l (by rfl) HB.out (fun h => by cases h) (by omega) ?_
                 intro a5 c5 w5 hb5 hc5 hw5 hn5 hk5)
    go_ret
    refine ⟨_, rfl, a5, c5, rfl, hc5, hb5, hn5, fun q hq => hw5 q hq, ?_⟩
    exact (((Below.refl w.heap.size w).alloc (Nat.le_refl _) (.cells #[] 5))).trans (hk5.below (by simp) (Nat.le_refl _))

/-- what Bytes answers -/
def BytesRes (f : Bool) (n : Nat) (l : List Nat) (w : World) (e : Ending) (w' : World) : Prop :=
  (f = true → e = .returned (.tuple #[.slice none 0 0, .int .i64 3]) ∧ w = w') ∧ (f = false → ∃ u, e = .returned (.tuple #[u, .int .i64 0]) ∧ Copied w n l u w')

set_option maxRecDepth 100000 in
set_option maxHeartbeats 2000000 in
theorem Bytes_any (wb lim : Nat) (v : Value) (l : List Nat) (f : Bool) (w : World) (W : WrAt w wb lim v l f) :
    Calls Tryz.prog 123 #[.pointer (some ⟨wb, 0, none⟩)] w fun e w' => BytesRes f l.length l w e w' := by
  have c2 : w.cell? ⟨wb, 2, none⟩ = some (.bool f) := by rw [cell_of_heap W.at_]; rfl
  have c1 : w.cell? ⟨wb, 1, none⟩ = some v := by rw [cell_of_heap W.at_]; rfl
  obtain ⟨a, c, rfl, hc, hb⟩ := W.sl
  have hnil : a = none → c = 0 := fun e => by
    rcases W.own.2 with ⟨h, _⟩ | ⟨g, cap, cur, h, _⟩
    · simp only [Value.slice.injEq] at h; exact h.2.2
    · simp only [Value.slice.injEq] at h; rw [e] at h; cases h.1
  have HC := hid (Clone_any a l.length c l w hb hnil (Nat.le_trans W.fit W.cap))
  clear hb hnil hc W
  cases f with
  | true =>
    go_enter Tryz.func123, Tryz.ntmps123
    go_wp2
    go_ret2
    exact ⟨fun _ => ⟨rfl, rfl⟩, fun h => by cases h⟩
  | false =>
    generalize hm : l.length = m at *
    have HM := hid (fun (_ : Unit) => hm)
    clear hm
    go_enter Tryz.func123, Tryz.ntmps123
    go_wp2_with fail
    refine HC.out.mono ?_
    rintro e w2 ⟨u, rfl, h⟩
    go_wp2
    go_ret2
    exact ⟨fun h => (by cases h), fun _ => ⟨u, rfl, h⟩⟩
end Go.Proofs.YtjgiiciniplbnaaGreatDoor
