/-
  Parts of a slice of bytes. · What the walks of the laws take of: constants as bytes, blocks that read as bytes or digests. · Owned rows of bytes; regions by a class of worlds. · The reference's SHA-256: turn, round. · The reference's SHA-256: fold. · The reference's Sum; the digest of a piece.
-/
import Derived.Test.YtjgiiciniplbnaaGreatDoorKa3
import Derived.Test.YtjgiiciniplbnaaGreatDoorKa4
import Derived.Lib.SlBytesConst
import Derived.Test.YtjgiiciniplbnaaGreatDoorKa1
import Derived.StillTailTactics
import Derived.Deep.DeepCutAuto
import Derived.Deep.AppendLies
namespace Go.Proofs.YtjgiiciniplbnaaGreatDoor
open Go Go.RowKit
set_option linter.unusedVariables false

theorem off_of {a : Option Addr} {n c rb : Nat} (h : Off rb (.slice a n c)) : ∀ ad, a = some ad → ad.block ≠ rb := fun ad e => by
  subst e
  exact h
theorem off_to {a : Option Addr} {n c rb : Nat} (h : ∀ ad, a = some ad → ad.block ≠ rb) : Off rb (.slice a n c) := by
  cases a with
  | none => trivial
  | some ad => exact h ad rfl
theorem add_block (ad : Addr) (k : Nat) : (ad.add k).block = ad.block := by
  unfold Addr.add
  split <;> rfl
/-- what follows the first k bytes, of no bytes too -/
theorem bs_from0 {w : World} {a : Option Addr} {n c : Nat} {l : List Nat} (h : Bs w (.slice a n c) l) (hc : n ≤ c) (hnil : a = none → c = 0) (k : Nat) (hk : k ≤ n) :
    ∃ a' c', (∀ w', (Instr.sliceAt 66 (.slice a n c) (some (.int .i64 (k : Int))) none none).run Tryz.prog w' = .ok (.slice a' (n - k) c') w') ∧ Bs w (.slice a' (n - k) c') (l.drop k) ∧ n - k ≤ c' ∧ (a' = none → c' = 0) ∧ (∀ fb, Off fb (.slice a n c) → Off fb (.slice a' (n - k) c')) := by
  by_cases h1 : 1 ≤ n
  · exact bs_from h h1 hc k hk
  · obtain rfl : n = 0 := by omega
    obtain rfl : k = 0 := by omega
    have hl : l = [] := List.length_eq_zero_iff.1 h.len.symm
    subst hl
    cases a with
    | none =>
      obtain rfl := hnil rfl
      exact ⟨none, 0, fun w' => by simp [go_sem, Tryz.underlying66], bs_nilH _ _ _, Nat.le_refl _, fun _ => rfl, fun _ _ => trivial⟩
    | some ad =>
      by_cases e : c = 0
      · subst e
        exact ⟨some ad, 0, fun w' => by simp [go_sem, Tryz.underlying66], bs_nilH _ _ _, Nat.le_refl _, (fun h => by cases h), fun fb hf => hf⟩
      · exact ⟨some (ad.add 0), c, fun w' => by simp [go_sem, Tryz.underlying66, e], bs_nilH _ _ _, Nat.zero_le _, (fun h => by cases h), fun fb hf => (by show (ad.add 0).block ≠ fb; rw [add_block]; exact hf)⟩
/-- the first k bytes -/
theorem bs_upto {w : World} {a : Option Addr} {n c : Nat} {l : List Nat} (h : Bs w (.slice a n c) l) (k : Nat) (hk : k ≤ n) : Bs w (.slice a k c) (l.take k) := by
  have hlen := h.len
  have hlt := h.lt
  obtain ⟨a', c', h1, h2, h3⟩ := h
  simp only [Value.slice.injEq] at h1
  obtain ⟨rfl, h11, rfl⟩ := h1
  refine ⟨_, _, by rw [List.length_take, Nat.min_eq_left (by omega)], fun x hx => h2 x (List.mem_of_mem_take hx), fun hne => ?_⟩
  have hne2 : l ≠ [] := fun e => hne (by rw [e]; simp)
  obtain ⟨b, o, ha, hcell⟩ := h3 hne2
  refine ⟨b, o, ha, fun i hi => ?_⟩
  rw [List.length_take] at hi
  rw [hcell i (by omega), List.getD_eq_getElem?_getD, List.getD_eq_getElem?_getD, List.getElem?_take, if_pos (by omega)]
theorem or_add (a b : Nat) (h : b < 256) : a * 256 ||| b = a * 256 + b := by
  have h1 := Nat.shiftLeft_add_eq_or_of_lt (i := 8) (b := b) (by omega) a
  rw [Nat.shiftLeft_eq] at h1
  exact h1.symm
end Go.Proofs.YtjgiiciniplbnaaGreatDoor

namespace Go.Proofs.YtjgiiciniplbnaaGreatDoor
open Go Go.RowKit
set_option linter.unusedVariables false

theorem man_known (od : List Nat) (h : od.length = 32) (D : List (List Nat)) : (encTo 2 3 3 2 od D 3).take 7 = [77, 1, 2, 3, 3, 0, 2] := rfl
theorem bstr_seven : bstr [77, 1, 2, 3, 3, 0, 2] = (⟨#[77, 1, 2, 3, 3, 0, 2]⟩ : ByteArray) := by kernel_rfl
theorem bs_mark (w : World) (l : List Nat) (hl : ∀ n ∈ l, n < 256) (T : TypeId) (fr : Nat × Nat) (c : Nat) : Bs (w.alloc (.cells (u8s l).toArray T fr)) (.slice (some ⟨w.heap.size, 0, none⟩) l.length c) l :=
  ⟨_, c, rfl, hl, fun _ => ⟨w.heap.size, 0, rfl, fun i hi => by
    have h := heap_new w (.cells (u8s l).toArray T fr)
    rw [Nat.zero_add]
    unfold World.cell?
    rw [h]
    simp [u8s, hi]⟩⟩
theorem plen_2_2 : plen 2 2 = 1 := by kernel_rfl

theorem range_of_heap {w : World} {b : Nat} {cs : List Value} {T : TypeId} (h : w.heap[b]? = some (.cells cs.toArray T (0, 0))) : w.rangeAt b 0 cs := fun j v hj => by
  rw [Nat.zero_add, cell_of_heap h, List.getElem?_toArray]
  exact hj
theorem upto_run (a : Option Addr) (n c k : Nat) (h : k ≤ c) (w' : World) : (Instr.sliceAt 66 (.slice a n c) none (some (.int .i64 (k : Int))) none).run Tryz.prog w' = .ok (.slice a k c) w' := by
  have u1 : (k : Int) ≤ (c : Int) := by omega
  have u2 : (0 : Int) ≤ (k : Int) := by omega
  cases a <;> simp [go_sem, Tryz.underlying66, u1, u2]
theorem DgAt.same {w w' : World} {gd n c : Nat} {D : List (List Nat)} (h : DgAt w (.slice (some ⟨gd, 0, none⟩) n c) D) (k : w'.heap[gd]? = w.heap[gd]?) : DgAt w' (.slice (some ⟨gd, 0, none⟩) n c) D := by
  obtain ⟨a, c', h1, h2, h3⟩ := h
  refine ⟨a, c', h1, h2, fun hD => ?_⟩
  obtain ⟨b, o, h4, h5⟩ := h3 hD
  refine ⟨b, o, h4, fun j hj => range_same (h5 j hj) ?_⟩
  simp only [Value.slice.injEq] at h1
  rw [h4] at h1
  simp only [Option.some.injEq, Addr.mk.injEq] at h1
  rw [← h1.1.1]
  exact k
theorem digL_lt' (h : List Nat) : ∀ x ∈ digL h, x < 256 := fun x hx => by
  unfold digL at hx
  obtain ⟨p, _, rfl⟩ := List.mem_map.1 hx
  exact Nat.mod_lt _ (by decide)
theorem digL_lt {KC SH m : List Nat} (l : Unit) : ∀ x ∈ dig KC SH m, x < 256 := digL_lt' _
theorem dgAt_three {w : World} {gd : Nat} {KC SH l : List Nat} {k L : Nat} (h : ∀ j, j < 3 → w.rangeAt gd (j * 32) (u8s (pdg KC SH l k L j))) : DgAt w (.slice (some ⟨gd, 0, none⟩) 3 3) [pdg KC SH l k L 0, pdg KC SH l k L 1, pdg KC SH l k L 2] := by
  refine ⟨_, 3, rfl, fun d hd => ?_, fun _ => ⟨gd, 0, rfl, fun j hj => ?_⟩⟩
  · simp only [List.mem_cons, List.not_mem_nil, or_false] at hd
    rcases hd with rfl | rfl | rfl <;> exact ⟨dig_length _ _ _, digL_lt ()⟩
  · simp only [List.length_cons, List.length_nil] at hj
    rw [Nat.zero_add]
    rcases (show j = 0 ∨ j = 1 ∨ j = 2 from by omega) with rfl | rfl | rfl
    · exact h 0 (by omega)
    · exact h 1 (by omega)
    · exact h 2 (by omega)
end Go.Proofs.YtjgiiciniplbnaaGreatDoor

namespace Go.Proofs.YtjgiiciniplbnaaGreatDoor
open Go Go.RowKit
set_option linter.unusedVariables false

theorem owns_nilD (w : World) (base : Nat) : w.ownsRow base 5 1 (.slice none 0 0) 0 (u8s []) := ⟨rfl, .inl ⟨rfl, rfl⟩⟩
theorem owns_baseD {w : World} {b0 b1 m : Nat} {v : Value} {xs : List Value} (h : w.ownsRow b1 5 1 v m xs) (hb : b0 ≤ b1) : w.ownsRow b0 5 1 v m xs := by
  refine ⟨h.1, ?_⟩
  rcases h.2 with h2 | ⟨q, cap, cur, h1, h2, h3, h4⟩
  · exact .inl h2
  · exact .inr ⟨q, cap, cur, h1, Nat.le_trans hb h2, h3, h4⟩
theorem owns_belowR {w w' : World} {base m : Nat} {v : Value} {xs : List Value} (h : w.ownsRow base 5 1 v m xs) (k : Below w.heap.size w w') : w'.ownsRow base 5 1 v m xs := by
  refine ⟨h.1, ?_⟩
  rcases h.2 with h2 | ⟨q, cap, cur, h1, h2, h3, h4⟩
  · exact .inl h2
  · exact .inr ⟨q, cap, cur, h1, h2, (k.block q (lt_of_heap h3)).trans h3, h4⟩
theorem owns_keptR {w w' : World} {base g m : Nat} {v : Value} {xs : List Value} (h : w.ownsRow base 5 1 v m xs) (k : Kept g w w') (hg : g < base) : w'.ownsRow base 5 1 v m xs := by
  refine ⟨h.1, ?_⟩
  rcases h.2 with h2 | ⟨q, cap, cur, h1, h2, h3, h4⟩
  · exact .inl h2
  · exact .inr ⟨q, cap, cur, h1, h2, (k.block q (lt_of_heap h3) (by omega)).trans h3, h4⟩

/-- the worlds of the class G -/
structure Cls (G : World → Prop) where
  w : World
  h : G w
theorem wp_region_class_lit {P : Program} {id : Nat} {Q : Exit → Act → World → Prop} {a : Act} {w : World} {l : List Oper} {G : World → Prop} (hm : P.follows .mixedOrders = true) (hB : Region.lexB .any l.toArray = true) (hC : G { w with drawn := w.drawn + 1 })
    (h : wpQuiet P l.toArray (fun w' => ∃ p : Cls G, w' = p.w) (fun a' => ∀ w', (∃ p : Cls G, w' = p.w) → Q .normal a' w') l a) : (Code.region id l.toArray true).wp P Q a w :=
  wp_region_quiet (C := fun w' => ∃ p : Cls G, w' = p.w) hm hB ⟨⟨_, hC⟩, rfl⟩ (by simpa using h)
/-- a callee that makes memory only, met in a world behind w1 -/
theorem Calls.cls {P : Program} {f : FuncId} {args : Array Value} {w1 : World} {p : Cls fun w' => Below w1.heap.size w1 w'} {v : Value}
    (h : Calls P f args p.w fun e w' => e = .returned v ∧ Below p.w.heap.size p.w w') : Calls P f args p.w fun e w'' => e = .returned v ∧ ∃ q : Cls (fun w' => Below w1.heap.size w1 w'), w'' = q.w :=
  h.mono fun _ w' ⟨he, hb⟩ => ⟨he, ⟨w', p.h.trans (hb.mono p.h.size)⟩, rfl⟩
/-- .. and one that leaves the world alone -/
theorem Calls.cls_same {P : Program} {f : FuncId} {args : Array Value} {G : World → Prop} {p : Cls G} {v : Value}
    (h : Calls P f args p.w fun e w' => e = .returned v ∧ w' = p.w) : Calls P f args p.w fun e w'' => e = .returned v ∧ ∃ q : Cls G, w'' = q.w :=
  h.mono fun _ _ ⟨he, hm⟩ => ⟨he, p, hm⟩
/-- n operations of the class in any order, then the rest one by one -/
theorem region_class_tail {P : Program} {id : Nat} {Q : Exit → Act → World → Prop} {a : Act} {w : World} {l : List Oper} {G : World → Prop} (n : Nat) (hm : P.follows .mixedOrders = true) (hB : Region.lexTailB .any l.toArray n = true) (hC : G { w with drawn := w.drawn + 1 })
    (h : wpQuiet P l.toArray (fun w' => ∃ p : Cls G, w' = p.w) (fun b => ∀ p : Cls G, wpList P l.toArray Q (l.drop n) b p.w) (l.take n) a) : (Code.region id l.toArray true).wp P Q a w := by
  simp only [Region.lexTailB, Bool.and_eq_true, decide_eq_true_eq] at hB
  obtain ⟨⟨⟨⟨hsel, hn⟩, hs⟩, hc⟩, hlex⟩ := hB
  have hn' : n < l.length := by simpa using hn
  have htl : (l.take n).length = n := by rw [List.length_take]; omega
  have hdl : (l.drop n).length = l.toArray.size - n := by simp
  have inv : HeadInv .any l.toArray n (Array.replicate l.toArray.size false) :=
    ⟨by simp, fun j _ _ hl => (by rw [getD_replicate_false] at hl; cases hl), fun t _ ht => getD_in (by simpa using ht) (getD_replicate_false _ _)⟩
  have hlex' : Region.lexHead .any l.toArray (l.toArray.size - n) (l.take n).length 0 (Array.replicate l.toArray.size false) = true := by rw [htl]; exact hlex
  have H := Quiets.lex hsel hs hc hn (l.take n) 0 _ a (fun j hj => by rw [htl] at hj; simp [hj]) (by omega) inv hlex' h
  refine wp_region_any hm ?_
  have hrun := Quiets.runs (Q := Q) (g := l.toArray.size - n) (fun done b w' hw' hL => by
    obtain ⟨p, rfl⟩ := hw'
    have := wpAny_of_seq (md := .any) (Q' := Q) (l.drop n) n done b p.w (fun j => by simp [List.getElem?_drop]) (by rw [hdl]; exact hL.1) (hL.2 p)
    rwa [hdl] at this) _ _ a _ ⟨⟨_, hC⟩, rfl⟩ H
  rw [htl, show n + (l.toArray.size - n) = l.toArray.size by omega] at hrun
  exact hrun
end Go.Proofs.YtjgiiciniplbnaaGreatDoor

namespace Go.Proofs.YtjgiiciniplbnaaGreatDoor
open Go Go.RowKit
set_option linter.unusedVariables false

set_option maxRecDepth 100000 in
theorem turn_any (x n s : Nat) (h : n + s = 32) (h1 : 1 ≤ n) (h2 : 1 ≤ s) (hx : x < 4294967296) (w : World) :
    Calls Tryz.prog 150 #[.int .u32 (x : Int), .int .u64 (n : Int)] w fun e w' => e = .returned (.int .u32 ((rot x s : Nat) : Int)) ∧ w = w' := by
  have hv : bits .or .u32 ((x : Int) / 2 ^ n) ((x : Int) * 2 ^ s % 4294967296) = ((rot x s : Nat) : Int) := by
    have e1 : (x : Int) * 2 ^ s % 4294967296 = ((x * 2 ^ s % 4294967296 : Nat) : Int) := by simp
    have e2 : (x : Int) / 2 ^ n = ((x / 2 ^ n : Nat) : Int) := by simp
    rw [e1, e2, u32_or_nat _ _ (div_lt32 hx _) (mod_lt32 _), Nat.or_comm]
    unfold rot
    rw [show 32 - s = n from by omega]
  have HV := hid hv
  have t1 : IntKind.u64.wrap (32 - (n : Int)) = (s : Int) := by rw [IntKind.wrap_u64]; omega
  have t2 : 32 - (n : Int) = (s : Int) := by omega
  have t3 : (0 : Int) ≤ (n : Int) := by omega
  have t4 : (0 : Int) ≤ (s : Int) := by omega
  have t5 : (n : Int) ≤ 32 := by omega
  have t6 : (s : Int) ≤ 32 := by omega
  clear hv
  go_enter Tryz.func150, Tryz.ntmps150
  go_wp2
  rw [HV.out]
  go_ret
  exact ⟨rfl, rfl⟩

/-- turn, where only reading goes on -/
theorem turn_q (x n s : Nat) (h : n + s = 32) (h1 : 1 ≤ n) (h2 : 1 ≤ s) (hx : x < 4294967296) (w : World) :
    Calls Tryz.prog 150 #[.int .u32 (x : Int), .int .u64 (n : Int)] w fun e w' => e = .returned (.int .u32 ((rot x s : Nat) : Int)) ∧ w' = w :=
  (turn_any x n s h h1 h2 hx w).mono fun _ _ ⟨a, b⟩ => ⟨a, b.symm⟩
theorem word4 (c : Nat → Nat) (hc : ∀ j, c j < 256) (i : Nat) : wj c i 4 = c (4 * i) * 16777216 + c (4 * i + 1) * 65536 + c (4 * i + 2) * 256 + c (4 * i + 3) := by
  have h0 := hc (4 * i)
  have h1 := hc (4 * i + 1)
  have h2 := hc (4 * i + 2)
  have h3 := hc (4 * i + 3)
  have e1 : wj c i 1 = c (4 * i) := by
    show (0 * 256 % 4294967296) ||| c (4 * i + 0) = _
    rw [show 0 * 256 % 4294967296 = 0 from by decide, Nat.zero_or, Nat.add_zero]
  have e2 : wj c i 2 = c (4 * i) * 256 + c (4 * i + 1) := by
    show (wj c i 1 * 256 % 4294967296) ||| c (4 * i + 1) = _
    rw [e1, Nat.mod_eq_of_lt (by omega)]
    exact or_add _ _ h1
  have e3 : wj c i 3 = (c (4 * i) * 256 + c (4 * i + 1)) * 256 + c (4 * i + 2) := by
    show (wj c i 2 * 256 % 4294967296) ||| c (4 * i + 2) = _
    rw [e2, Nat.mod_eq_of_lt (by omega)]
    exact or_add _ _ h2
  show (wj c i 3 * 256 % 4294967296) ||| c (4 * i + 3) = _
  rw [e3, Nat.mod_eq_of_lt (by omega)]
  rw [or_add _ _ h3]
  omega
theorem or_sum (a b i : Nat) (hb : b < 2 ^ i) : (a * 2 ^ i) ||| b = a * 2 ^ i + b := by
  rw [Nat.mul_comm, ← Nat.two_pow_add_eq_or_of_lt hb]
theorem w1L_set4 (c : Nat → Nat) (i : Nat) (hi : i < 64) : (w1L c i 0).set i (wj c i 4) = w1L c i 4 := by
  unfold w1L
  apply List.ext_getElem
  · simp
  · intro t h1 h2
    rw [List.getElem_set]
    by_cases e : i = t
    · subst e; simp
    · rw [if_neg e]
      simp [show ¬ t = i from fun h => e h.symm]
/-- the words after t steps -/
def rL (c : Nat → Nat) (t : Nat) : List Nat := if t ≤ 16 then w1L c t 0 else w2L c (t - 16)
theorem rL_length (c : Nat → Nat) (t : Nat) (h : t ≤ 64) : (rL c t).length = 64 := by
  unfold rL
  split
  · exact w1L_length _ _ _
  · exact w2L_length _ _ (by omega)
theorem rL_low (c : Nat → Nat) (t : Nat) (h : t < 16) : (rL c t).set t (wj c t 4) = rL c (t + 1) := by
  unfold rL
  rw [if_pos (by omega), if_pos (by omega), w1L_set4 c t (by omega), w1L_next]
theorem rL_mid (c : Nat → Nat) (t : Nat) (h : 16 ≤ t) (h2 : t ≤ 64) : rL c t = w2L c (t - 16) := by
  unfold rL
  by_cases e : t = 16
  · subst e; rw [if_pos (by omega)]; exact w1_w2 c
  · rw [if_neg (by omega)]
theorem rL_high (c : Nat → Nat) (t : Nat) (h : 16 ≤ t) (h2 : t < 64) : (rL c t).set t (nx (schL c (t - 16)) t) = rL c (t + 1) := by
  rw [rL_mid c t h (by omega), rL_mid c (t + 1) (by omega) (by omega)]
  have h3 := w2L_step c (t - 16) (by omega)
  rw [show 16 + (t - 16) = t from by omega] at h3
  rw [h3, show t - 16 + 1 = t + 1 - 16 from by omega]
theorem rL_last (c : Nat → Nat) : rL c 64 = schL c 48 := by rw [rL_mid c 64 (by omega) (by omega)]; exact w2L_last c
/-- a row of eight words -/
def OwnV (w : World) (b : Nat) (l : List Nat) : Prop := w.heap[b]? = some (.cells (u32s l).toArray 180 (0, 0))
theorem OwnV.cell {w : World} {b : Nat} {l : List Nat} (h : OwnV w b l) (i : Nat) (hi : i < l.length) : w.cell? ⟨b, i, none⟩ = some (.int .u32 ((l.getD i 0 : Nat) : Int)) := by
  rw [cell_of_heap h]
  simp [u32s, List.getElem?_eq_getElem hi]
theorem OwnV.free {w : World} {b : Nat} {l : List Nat} (h : OwnV w b l) (i : Nat) : w.frozen? ⟨b, i, none⟩ = false := free_of_heap h i
theorem OwnV.set {w : World} {b : Nat} {l : List Nat} (h : OwnV w b l) (i n : Nat) : OwnV (w.setCell ⟨b, i, none⟩ (.int .u32 ((n : Nat) : Int))) b (l.set i n) := by
  have h1 := heap_set h i (.int .u32 n)
  show _ = _
  rw [h1]
  simp [u32s, List.map_set]

theorem OwnV.set8 {w : World} {vb x0 x1 x2 x3 x4 x5 x6 x7 : Nat} (h : OwnV w vb [x0, x1, x2, x3, x4, x5, x6, x7]) (y0 y1 y2 y3 y4 y5 y6 y7 : Nat) : OwnV ((((((((w.setCell ⟨vb, 0, none⟩ (.int .u32 ((y0 : Nat) : Int))).setCell ⟨vb, 1, none⟩ (.int .u32 ((y1 : Nat) : Int))).setCell ⟨vb, 2, none⟩ (.int .u32 ((y2 : Nat) : Int))).setCell ⟨vb, 3, none⟩ (.int .u32 ((y3 : Nat) : Int))).setCell ⟨vb, 4, none⟩ (.int .u32 ((y4 : Nat) : Int))).setCell ⟨vb, 5, none⟩ (.int .u32 ((y5 : Nat) : Int))).setCell ⟨vb, 6, none⟩ (.int .u32 ((y6 : Nat) : Int))).setCell ⟨vb, 7, none⟩ (.int .u32 ((y7 : Nat) : Int))) vb [y0, y1, y2, y3, y4, y5, y6, y7] := by
  have h0 : OwnV _ vb [y0, x1, x2, x3, x4, x5, x6, x7] := h.set 0 y0
  have h1 : OwnV _ vb [y0, y1, x2, x3, x4, x5, x6, x7] := h0.set 1 y1
  have h2 : OwnV _ vb [y0, y1, y2, x3, x4, x5, x6, x7] := h1.set 2 y2
  have h3 : OwnV _ vb [y0, y1, y2, y3, x4, x5, x6, x7] := h2.set 3 y3
  have h4 : OwnV _ vb [y0, y1, y2, y3, y4, x5, x6, x7] := h3.set 4 y4
  have h5 : OwnV _ vb [y0, y1, y2, y3, y4, y5, x6, x7] := h4.set 5 y5
  have h6 : OwnV _ vb [y0, y1, y2, y3, y4, y5, y6, x7] := h5.set 6 y6
  exact h6.set 7 y7
theorem kept8 {w w9 : World} {vb : Nat} (h : Kept vb w w9) (v0 v1 v2 v3 v4 v5 v6 v7 : Value) : Kept vb w ((((((((w9.setCell ⟨vb, 0, none⟩ v0).setCell ⟨vb, 1, none⟩ v1).setCell ⟨vb, 2, none⟩ v2).setCell ⟨vb, 3, none⟩ v3).setCell ⟨vb, 4, none⟩ v4).setCell ⟨vb, 5, none⟩ v5).setCell ⟨vb, 6, none⟩ v6).setCell ⟨vb, 7, none⟩ v7) := ((((((((h.setCell (p := ⟨vb, 0, none⟩) rfl v0).setCell (p := ⟨vb, 1, none⟩) rfl v1).setCell (p := ⟨vb, 2, none⟩) rfl v2).setCell (p := ⟨vb, 3, none⟩) rfl v3).setCell (p := ⟨vb, 4, none⟩) rfl v4).setCell (p := ⟨vb, 5, none⟩) rfl v5).setCell (p := ⟨vb, 6, none⟩) rfl v6).setCell (p := ⟨vb, 7, none⟩) rfl v7)
theorem map_eight (x0 x1 x2 x3 x4 x5 x6 x7 : Operand) (f : Operand → Value) : ((#[(0, x0), (1, x1), (2, x2), (3, x3), (4, x4), (5, x5), (6, x6), (7, x7)] : Array (Nat × Operand)).map fun (i, x) => (i, f x)).toList = [(0, f x0), (1, f x1), (2, f x2), (3, f x3), (4, f x4), (5, f x5), (6, f x6), (7, f x7)] := by simp
set_option maxRecDepth 100000 in
theorem built8 (v0 v1 v2 v3 v4 v5 v6 v7 : Nat) : Tryz.prog.built 180 [(0, .int .u32 (v0 : Int)), (1, .int .u32 (v1 : Int)), (2, .int .u32 (v2 : Int)), (3, .int .u32 (v3 : Int)), (4, .int .u32 (v4 : Int)), (5, .int .u32 (v5 : Int)), (6, .int .u32 (v6 : Int)), (7, .int .u32 (v7 : Int))] = some (u32s [v0, v1, v2, v3, v4, v5, v6, v7]).toArray := by kernel_rfl
theorem wp_thenD {P : Program} {o : Oper} {a : Act} {w : World} {K K' R : Act → World → Prop} {Q : Exit → Act → World → Prop} (h : ∀ a w, K a w → K' a w) (hh : o.wp P a w K (Exit.then R Q)) : o.wp P a w K' Q := by
  have h1 := Oper.wp_mono (K' := K') h hh
  clear hh h
  unfold Oper.wp at h1 ⊢
  generalize (execOp a.eval o).run P w = r at *
  cases r with
  | ok n w' => cases n <;> exact h1
  | halt e w' => cases e <;> exact h1
/-- the first operations of a list, then the others -/
theorem wpList_thenD {P : Program} {ops : Array Oper} {Q : Exit → Act → World → Prop} {l2 : List Oper} : ∀ {l1 : List Oper} {a : Act} {w : World}, wpList P ops (Exit.then (wpList P ops Q l2) Q) l1 a w → wpList P ops Q (l1 ++ l2) a w
  | [], _, _, h => h
  | o :: l1, a, w, h => by
    rw [List.cons_append]
    unfold wpList at h ⊢
    split
    · rename_i hw
      rw [if_pos hw] at h
      exact h.imp (wp_thenD fun _ _ => wpList_thenD) id
    · rename_i hw
      rw [if_neg hw] at h
      exact wpList_thenD h
theorem wpList_then {P : Program} {ops : Array Oper} {Q : Exit → Act → World → Prop} {l : List Oper} {a : Act} {w : World} (n : Nat) (h : wpList P ops (Exit.then (wpList P ops Q (l.drop n)) Q) (l.take n) a w) : wpList P ops Q l a w := by
  have h1 := wpList_thenD h
  rwa [List.take_append_drop] at h1
theorem hide_then {P : Program} {ops : Array Oper} {Q : Exit → Act → World → Prop} {K : Act → World → Prop} {l1 : List Oper} {a : Act} {w : World} (h : ∀ R, R = K → wpList P ops (Exit.then R Q) l1 a w) : wpList P ops (Exit.then K Q) l1 a w := h K rfl
/-- the making of eight words, as one step -/
theorem wpList_build8 {ops : Array Oper} {rest : List Oper} {o : Oper} {a : Act} {w : World} {Q : Exit → Act → World → Prop} (hgd : o.guard = none) (x0 x1 x2 x3 x4 x5 x6 x7 : Operand) (ho : o.op = .build 180 #[(0, x0), (1, x1), (2, x2), (3, x3), (4, x4), (5, x5), (6, x6), (7, x7)]) (v0 v1 v2 v3 v4 v5 v6 v7 : Nat)
    (h0 : a.eval x0 = .int .u32 (v0 : Int)) (h1 : a.eval x1 = .int .u32 (v1 : Int)) (h2 : a.eval x2 = .int .u32 (v2 : Int)) (h3 : a.eval x3 = .int .u32 (v3 : Int)) (h4 : a.eval x4 = .int .u32 (v4 : Int)) (h5 : a.eval x5 = .int .u32 (v5 : Int)) (h6 : a.eval x6 = .int .u32 (v6 : Int)) (h7 : a.eval x7 = .int .u32 (v7 : Int))
    (hK : ∀ cells, cells = (u32s [v0, v1, v2, v3, v4, v5, v6, v7]).toArray → wpList Tryz.prog ops Q rest (a.put o.dst (.agg cells)) w) : wpList Tryz.prog ops Q (o :: rest) a w := by
  refine wpList_plain hgd fun _ hK' => ?_
  have hv := map_eight x0 x1 x2 x3 x4 x5 x6 x7 a.eval
  rw [h0, h1, h2, h3, h4, h5, h6, h7] at hv
  have hp := built8 v0 v1 v2 v3 v4 v5 v6 v7
  rw [← hv] at hp
  have h := run_build (P := Tryz.prog) w 180 _ _ hp
  unfold Oper.wp execOp
  simp only [ho, Sem.run_bind, h, Result.andThen_ok, Sem.run_pure]
  exact hK' _ _ (hK _ rfl)
/-- what round lays ahead -/
structure RdS (w w1 : World) (h K : List Nat) : Prop where
  bel : Below w.heap.size w w1
  hh : OwnV w1 w.heap.size h
  kk : OwnW w1 (w.heap.size + 1) K
  rr : OwnV w1 (w.heap.size + 1 + 1) (List.replicate 8 0)
  ww : ∀ c, OwnW w1 (w.heap.size + 1 + 1 + 1) (rL c 0)
  siz : w1.heap.size = w.heap.size + 1 + 1 + 1 + 1
theorem rd_at (w : World) (h K : List Nat) (w1 : World) (hw : w1 = (((w.alloc (.cells (u32s h).toArray 180)).alloc (.cells (u32s K).toArray 179)).alloc (.cells (u32s (List.replicate 8 0)).toArray 180)).alloc (.cells (u32s (List.replicate 64 0)).toArray 179)) : RdS w w1 h K := by
  obtain ⟨wa, hwa⟩ : ∃ q, q = w.alloc (.cells (u32s h).toArray 180) := ⟨_, rfl⟩
  obtain ⟨wb, hwb⟩ : ∃ q, q = wa.alloc (.cells (u32s K).toArray 179) := ⟨_, rfl⟩
  obtain ⟨wc, hwc⟩ : ∃ q, q = wb.alloc (.cells (u32s (List.replicate 8 0)).toArray 180) := ⟨_, rfl⟩
  have hw1 : w1 = wc.alloc (.cells (u32s (List.replicate 64 0)).toArray 179) := by rw [hw, hwc, hwb, hwa]
  have ha : wa.heap.size = w.heap.size + 1 := by rw [hwa]; simp
  have hb : wb.heap.size = w.heap.size + 1 + 1 := by rw [hwb]; simp [ha]
  have hc : wc.heap.size = w.heap.size + 1 + 1 + 1 := by rw [hwc]; simp [hb]
  have Ha : Below w.heap.size w wa := by rw [hwa]; exact (Below.refl _ _).alloc (Nat.le_refl _) _
  have Hb : Below w.heap.size w wb := by rw [hwb]; exact Ha.alloc (by omega) _
  have Hc : Below w.heap.size w wc := by rw [hwc]; exact Hb.alloc (by omega) _
  rw [hw1]
  refine ⟨Hc.alloc (by omega) _, ?_, ?_, ?_, fun c => ?_, by simp [hc]⟩
  · show _ = _
    rw [heap_alloc_old _ _ (by omega), hwc, heap_alloc_old _ _ (by omega), hwb, heap_alloc_old _ _ (by omega), hwa]
    exact heap_new _ _
  · show _ = _
    rw [heap_alloc_old _ _ (by omega), hwc, heap_alloc_old _ _ (by omega), hwb, ← ha]
    exact heap_new _ _
  · show _ = _
    rw [heap_alloc_old _ _ (by omega), hwc, ← hb]
    exact heap_new _ _
  · have e : rL c 0 = List.replicate 64 0 := by
      unfold rL
      rw [if_pos (by omega)]
      refine getD_ext2 (by rw [w1L_length, List.length_replicate]) fun t ht => ?_
      rw [w1L_length] at ht
      rw [w1L_getD, if_pos ht, zeros_getD, if_neg (by omega)]
      split <;> rfl
    show _ = _
    rw [e, ← hc]
    exact heap_new _ _

set_option maxRecDepth 100000 in
set_option maxHeartbeats 4000000 in
theorem round_any (h K l : List Nat) (a : Option Addr) (cap : Nat) (w : World) (hh : h.length = 8) (ho : ∀ i, h.getD i 0 < 4294967296) (hk : K.length = 64) (ko : ∀ i, K.getD i 0 < 4294967296) (hb : Bs w (.slice a 64 cap) l) :
    Calls Tryz.prog 127 #[.agg (u32s h).toArray, .agg (u32s K).toArray, .slice a 64 cap] w fun e w' => e = .returned (.agg (u32s (cmp (fun i => K.getD i 0) h (fun j => l.getD j 0))).toArray) ∧ Below w.heap.size w w' := by
  obtain ⟨w1, hw1⟩ : ∃ q, q = (((w.alloc (.cells (u32s h).toArray 180)).alloc (.cells (u32s K).toArray 179)).alloc (.cells (u32s (List.replicate 8 0)).toArray 180)).alloc (.cells (u32s (List.replicate 64 0)).toArray 179) := ⟨_, rfl⟩
  have HS := hid (rd_at w h K w1 hw1)
  have HB1 := hid (hb.below HS.out.bel)
  have HLT := hid hb.lt
  have HLL := hid hb.len
  have HHH := hid (And.intro hh (And.intro ho (And.intro hk ko)))
  obtain ⟨b, o, rfl⟩ : ∃ b o, a = some ⟨b, o, none⟩ := by
    rcases hb.addr with ⟨h0, _⟩ | ⟨_, b, o, c', hv⟩
    · have := hb.len; rw [h0] at this; simp at this
    · simp only [Value.slice.injEq] at hv; exact ⟨b, o, hv.1⟩
  have HBL := hid (World.block_lt_of_cell? _ _ (hb.cell 0 (by have := hb.len; omega)))
  have HO1 := hid (show OwnW w1 (w.heap.size + 1 + 1 + 1) (rL (fun j => l.getD j 0) 0) from HS.out.ww _)
  clear hh ho hk ko hb
  go_enter Tryz.func127, Tryz.ntmps127
  go_upto_region 2 with fail
  change Code.wp _ _ _ _ ((((w.alloc (.cells (u32s h).toArray 180)).alloc (.cells (u32s K).toArray 179)).alloc (.cells (u32s (List.replicate 8 0)).toArray 180)).alloc (.cells (u32s (List.replicate 64 0)).toArray 179))
  rw [← hw1]
  clear hw1
  go_wp2
  go_loopw [8] (fun iv wr => ∃ t : Nat, t ≤ 64 ∧ iv = .int .i64 t ∧ Hid (OwnW wr (w.heap.size + 1 + 1 + 1) (rL (fun j => l.getD j 0) t)) ∧ Hid (Kept (w.heap.size + 1 + 1 + 1) w1 wr)) (fun iv _ => 64 - (intOf iv).toNat)
  case atStart => exact ⟨0, by omega, rfl, HO1, hid (Kept.refl _ _)⟩
  case round =>
    clear HO1
    obtain ⟨t, ht, rfl, HO, HK⟩ := hrel
    by_cases ht64 : t < 64
    case pos =>
      have hT : (t : Int) < 64 := by omega
      by_cases ht16 : t < 16
      · as_aux_lemma =>
        have hT16 : (t : Int) < 16 := by omega
        have hsz1 := HS.out.siz
        have hbw : b < w.heap.size := HBL.out
        have HBR := hid (show Bs wr (.slice (some ⟨b, o, none⟩) 64 cap) l from HB1.out.kept HK.out (off_to fun ad e => by simp only [Option.some.injEq] at e; subst e; show b ≠ _; omega))
        have hc := fun q (hq : q < 64) => HBR.out.cell q (by rw [← HLL.out]; exact hq)
        obtain ⟨q0, hq0⟩ : ∃ q, q = 4 * t := ⟨_, rfl⟩
        obtain ⟨q1, hq1⟩ : ∃ q, q = 4 * t + 1 := ⟨_, rfl⟩
        obtain ⟨q2, hq2⟩ : ∃ q, q = 4 * t + 2 := ⟨_, rfl⟩
        obtain ⟨q3, hq3⟩ : ∃ q, q = 4 * t + 3 := ⟨_, rfl⟩
        have c0 := hc q0 (by omega)
        have c1 := hc q1 (by omega)
        have c2 := hc q2 (by omega)
        have c3 := hc q3 (by omega)
        have v0 := HLT.out q0
        have v1 := HLT.out q1
        have v2 := HLT.out q2
        have v3 := HLT.out q3
        have hwd : wj (fun j => l.getD j 0) t 4 = l.getD q0 0 * 16777216 + l.getD q1 0 * 65536 + l.getD q2 0 * 256 + l.getD q3 0 := by rw [hq0, hq1, hq2, hq3]; exact word4 (fun j => l.getD j 0) HLT.out t
        have k1 := HO.out.cell t (by rw [rL_length _ _ ht]; exact ht64)
        have f1 := HO.out.free t
        have HST := hid (fun nq => (show OwnW ((wr.drewN nq).setCell ⟨w.heap.size + 1 + 1 + 1, t, none⟩ (.int .u32 ((wj (fun j => l.getD j 0) t 4 : Nat) : Int))) (w.heap.size + 1 + 1 + 1) (rL (fun j => l.getD j 0) (t + 1)) from by
          have h5 := (show OwnW (wr.drewN nq) _ _ from HO.out).set t (wj (fun j => l.getD j 0) t 4)
          rwa [rL_low _ _ ht16] at h5))
        generalize (rL (fun j => l.getD j 0) t).getD t 0 = z at *
        generalize wj (fun j => l.getD j 0) t 4 = word at *
        generalize l.getD q0 0 = y0 at *
        generalize l.getD q1 0 = y1 at *
        generalize l.getD q2 0 = y2 at *
        generalize l.getD q3 0 = y3 at *
        have m0 : (4 : Int) * (t : Int) = (q0 : Int) := by omega
        have m1 : (q0 : Int) + 1 = (q1 : Int) := by omega
        have m2 : (q0 : Int) + 2 = (q2 : Int) := by omega
        have m3 : (q0 : Int) + 3 = (q3 : Int) := by omega
        have x0 : IntKind.i64.wrap (4 * (t : Int)) = (q0 : Int) := by rw [IntKind.wrap_i64]; omega
        have x1 : IntKind.i64.wrap ((q0 : Int) + 1) = (q1 : Int) := by rw [IntKind.wrap_i64]; omega
        have x2 : IntKind.i64.wrap ((q0 : Int) + 2) = (q2 : Int) := by rw [IntKind.wrap_i64]; omega
        have x3 : IntKind.i64.wrap ((q0 : Int) + 3) = (q3 : Int) := by rw [IntKind.wrap_i64]; omega
        have i0 : IntKind.i64.wrap (q0 : Int) = (q0 : Int) := by rw [IntKind.wrap_i64]; omega
        have i1 : IntKind.i64.wrap (q1 : Int) = (q1 : Int) := by rw [IntKind.wrap_i64]; omega
        have i2 : IntKind.i64.wrap (q2 : Int) = (q2 : Int) := by rw [IntKind.wrap_i64]; omega
        have i3 : IntKind.i64.wrap (q3 : Int) = (q3 : Int) := by rw [IntKind.wrap_i64]; omega
        have j0 : (q0 : Int) < 64 := by omega
        have j1 : (q1 : Int) < 64 := by omega
        have j2 : (q2 : Int) < 64 := by omega
        have j3 : (q3 : Int) < 64 := by omega
        have u0 : IntKind.u32.wrap (y0 : Int) = (y0 : Int) := by rw [IntKind.wrap_u32']; omega
        have u1 : IntKind.u32.wrap (y1 : Int) = (y1 : Int) := by rw [IntKind.wrap_u32']; omega
        have u2 : IntKind.u32.wrap (y2 : Int) = (y2 : Int) := by rw [IntKind.wrap_u32']; omega
        have u3 : IntKind.u32.wrap (y3 : Int) = (y3 : Int) := by rw [IntKind.wrap_u32']; omega
        obtain ⟨n0, hn0⟩ : ∃ q, q = y0 * 16777216 := ⟨_, rfl⟩
        obtain ⟨n1, hn1⟩ : ∃ q, q = y1 * 65536 := ⟨_, rfl⟩
        obtain ⟨n2, hn2⟩ : ∃ q, q = y2 * 256 := ⟨_, rfl⟩
        obtain ⟨n01, hn01⟩ : ∃ q, q = n0 + n1 := ⟨_, rfl⟩
        obtain ⟨n012, hn012⟩ : ∃ q, q = n01 + n2 := ⟨_, rfl⟩
        have s0 : IntKind.u32.wrap ((y0 : Int) * 16777216) = (n0 : Int) := by rw [IntKind.wrap_u32']; omega
        have s1 : IntKind.u32.wrap ((y1 : Int) * 65536) = (n1 : Int) := by rw [IntKind.wrap_u32']; omega
        have s2 : IntKind.u32.wrap ((y2 : Int) * 256) = (n2 : Int) := by rw [IntKind.wrap_u32']; omega
        have r1 : bits .or .u32 (n0 : Int) (n1 : Int) = (n01 : Int) := by
          rw [u32_or_nat n0 n1 (by omega) (by omega), hn01, hn0, show y0 * 16777216 = y0 * 2 ^ 24 from rfl, or_sum y0 n1 24 (by omega)]
        have r2 : bits .or .u32 (n01 : Int) (n2 : Int) = (n012 : Int) := by
          rw [u32_or_nat n01 n2 (by omega) (by omega), hn012, show n01 = (y0 * 256 + y1) * 2 ^ 16 from by omega, or_sum _ n2 16 (by omega)]
        have r3 : bits .or .u32 (n012 : Int) (y3 : Int) = (word : Int) := by
          rw [u32_or_nat n012 y3 (by omega) (by omega), show n012 = ((y0 * 256 + y1) * 256 + y2) * 2 ^ 8 from by omega, or_sum _ y3 8 (by omega)]
          omega
        have HQ := hid hq0
        clear hq0 hq1 hq2 hq3 hn0 hn1 hn2 hn01 hn012 hwd hc hsz1
        go_wp2
        refine region_quiet_tail 35 (by kernel_rfl) (by kernel_rfl) ?_
        simp only [List.take_succ_cons, List.take_zero, List.drop_succ_cons, List.drop_zero]
        repeat (quiet_step (fail))
        refine wpQuiet_nil ?_
        intro nq
        go_wp2
        exact ⟨⟨t + 1, by omega, by go_num, hid (HST.out nq), hid ((HK.out.drewN nq).setCell (p := ⟨w.heap.size + 1 + 1 + 1, t, none⟩) rfl _)⟩, by simp [intOf]; omega⟩
      · as_aux_lemma =>
        have hT16 : ¬ (t : Int) < 16 := by omega
        obtain ⟨k, hk⟩ : ∃ k, k = t - 16 := ⟨_, rfl⟩
        have hlen := rL_length (fun j => l.getD j 0) t ht
        have hat := fun q (hq : q < t) => (show (rL (fun j => l.getD j 0) t).getD q 0 = (schL (fun j => l.getD j 0) k).getD q 0 from by rw [rL_mid _ _ (by omega) ht, ← hk]; exact w2L_at _ _ _ (by omega))
        have g1 := HO.out.cell (t - 15) (by rw [hlen]; omega)
        have g2 := HO.out.cell (t - 2) (by rw [hlen]; omega)
        have g3 := HO.out.cell (t - 16) (by rw [hlen]; omega)
        have g4 := HO.out.cell (t - 7) (by rw [hlen]; omega)
        rw [hat _ (by omega)] at g1 g2 g3 g4
        have hsl := schL_lt (c := fun j => l.getD j 0) HLT.out k
        have hgl : ∀ q, (schL (fun j => l.getD j 0) k).getD q 0 < 4294967296 := fun q => by
          rw [List.getD_eq_getElem?_getD]
          by_cases h : q < (schL (fun j => l.getD j 0) k).length
          · rw [List.getElem?_eq_getElem h]; exact hsl _ (List.getElem_mem _)
          · rw [List.getElem?_eq_none (by omega)]; decide
        have g5 := HO.out.cell t (by rw [hlen]; exact ht64)
        have f1 := HO.out.free t
        have HST := hid (fun (wz : World) (hz : wz.heap[w.heap.size + 1 + 1 + 1]? = wr.heap[w.heap.size + 1 + 1 + 1]?) => (show OwnW (wz.setCell ⟨w.heap.size + 1 + 1 + 1, t, none⟩ (.int .u32 ((nx (schL (fun j => l.getD j 0) k) t : Nat) : Int))) (w.heap.size + 1 + 1 + 1) (rL (fun j => l.getD j 0) (t + 1)) from by
          have h5 := (HO.out.same hz).set t (nx (schL (fun j => l.getD j 0) k) t)
          rw [hk, rL_high _ _ (by omega) ht64] at h5
          rw [hk]
          exact h5))
        have h1 := hgl (t - 15)
        have h2 := hgl (t - 2)
        have h3 := hgl (t - 16)
        have h4 := hgl (t - 7)
        have HNX := hid (show nx (schL (fun j => l.getD j 0) k) t = ad (ad (ad ((schL (fun j => l.getD j 0) k).getD (t - 16) 0) (ssE ((schL (fun j => l.getD j 0) k).getD (t - 15) 0))) ((schL (fun j => l.getD j 0) k).getD (t - 7) 0)) (ssL ((schL (fun j => l.getD j 0) k).getD (t - 2) 0)) from rfl)
        clear hsl hgl hlen hat hk
        generalize (schL (fun j => l.getD j 0) k).getD (t - 15) 0 = x at *
        generalize (schL (fun j => l.getD j 0) k).getD (t - 2) 0 = y at *
        generalize (schL (fun j => l.getD j 0) k).getD (t - 16) 0 = p at *
        generalize (schL (fun j => l.getD j 0) k).getD (t - 7) 0 = q at *
        generalize (rL (fun j => l.getD j 0) t).getD t 0 = z at *
        generalize nx (schL (fun j => l.getD j 0) k) t = nw at *
        have d1 : (t : Int) - 15 = ((t - 15 : Nat) : Int) := by omega
        have d2 : (t : Int) - 2 = ((t - 2 : Nat) : Int) := by omega
        have d3 : (t : Int) - 16 = ((t - 16 : Nat) : Int) := by omega
        have d4 : (t : Int) - 7 = ((t - 7 : Nat) : Int) := by omega
        have j1 : t - 15 < 64 := by omega
        have j2 : t - 2 < 64 := by omega
        have j3 : t - 16 < 64 := by omega
        have j4 : t - 7 < 64 := by omega
        have m1 : ((t - 15 : Nat) : Int) < 64 := by omega
        have m2 : ((t - 2 : Nat) : Int) < 64 := by omega
        have m3 : ((t - 16 : Nat) : Int) < 64 := by omega
        have m4 : ((t - 7 : Nat) : Int) < 64 := by omega
        have n1 : IntKind.i64.wrap ((t - 15 : Nat) : Int) = ((t - 15 : Nat) : Int) := by rw [IntKind.wrap_i64]; omega
        have n2 : IntKind.i64.wrap ((t - 2 : Nat) : Int) = ((t - 2 : Nat) : Int) := by rw [IntKind.wrap_i64]; omega
        have n3 : IntKind.i64.wrap ((t - 16 : Nat) : Int) = ((t - 16 : Nat) : Int) := by rw [IntKind.wrap_i64]; omega
        have n4 : IntKind.i64.wrap ((t - 7 : Nat) : Int) = ((t - 7 : Nat) : Int) := by rw [IntKind.wrap_i64]; omega
        have o1 : IntKind.i64.wrap ((t : Int) - 15) = ((t - 15 : Nat) : Int) := by rw [IntKind.wrap_i64]; omega
        have o2 : IntKind.i64.wrap ((t : Int) - 2) = ((t - 2 : Nat) : Int) := by rw [IntKind.wrap_i64]; omega
        have o3 : IntKind.i64.wrap ((t : Int) - 16) = ((t - 16 : Nat) : Int) := by rw [IntKind.wrap_i64]; omega
        have o4 : IntKind.i64.wrap ((t : Int) - 7) = ((t - 7 : Nat) : Int) := by rw [IntKind.wrap_i64]; omega
        generalize t - 15 = i1 at *
        generalize t - 2 = i2 at *
        generalize t - 16 = i3 at *
        generalize t - 7 = i4 at *
        obtain ⟨r1, hr1⟩ : ∃ r, r = rot x 25 := ⟨_, rfl⟩
        obtain ⟨r2, hr2⟩ : ∃ r, r = rot x 14 := ⟨_, rfl⟩
        obtain ⟨r3, hr3⟩ : ∃ r, r = rot y 15 := ⟨_, rfl⟩
        obtain ⟨r4, hr4⟩ : ∃ r, r = rot y 13 := ⟨_, rfl⟩
        obtain ⟨x8, hx8⟩ : ∃ r, r = x / 8 := ⟨_, rfl⟩
        obtain ⟨y9, hy9⟩ : ∃ r, r = y / 1024 := ⟨_, rfl⟩
        obtain ⟨E, hE⟩ : ∃ E, E = ssE x := ⟨_, rfl⟩
        obtain ⟨G, hG⟩ : ∃ E, E = ssL y := ⟨_, rfl⟩
        have dx : (x : Int) / 8 = (x8 : Int) := by omega
        have dy : (y : Int) / 1024 = (y9 : Int) := by omega
        have l1 : r1 < 4294967296 := by rw [hr1]; exact rot_lt h1 _
        have l2 : r2 < 4294967296 := by rw [hr2]; exact rot_lt h1 _
        have l3 : r3 < 4294967296 := by rw [hr3]; exact rot_lt h2 _
        have l4 : r4 < 4294967296 := by rw [hr4]; exact rot_lt h2 _
        have l5 : x8 < 4294967296 := by omega
        have l6 : y9 < 4294967296 := by omega
        obtain ⟨r12, hr12⟩ : ∃ r, r = r1 ^^^ r2 := ⟨_, rfl⟩
        obtain ⟨r34, hr34⟩ : ∃ r, r = r3 ^^^ r4 := ⟨_, rfl⟩
        have l7 : r12 < 4294967296 := by rw [hr12]; exact xor_lt32 l1 l2
        have l8 : r34 < 4294967296 := by rw [hr34]; exact xor_lt32 l3 l4
        have e1 : bits .xor .u32 (r1 : Int) (r2 : Int) = (r12 : Int) := by rw [hr12]; exact u32_xor_nat r1 r2 l1 l2
        have e2 : bits .xor .u32 (r12 : Int) (x8 : Int) = (E : Int) := by rw [u32_xor_nat r12 x8 l7 l5, hE, hr12, hr1, hr2, hx8]; rfl
        have e3 : bits .xor .u32 (r3 : Int) (r4 : Int) = (r34 : Int) := by rw [hr34]; exact u32_xor_nat r3 r4 l3 l4
        have e4 : bits .xor .u32 (r34 : Int) (y9 : Int) = (G : Int) := by rw [u32_xor_nat r34 y9 l8 l6, hG, hr34, hr3, hr4, hy9]; rfl
        obtain ⟨s1, hs1⟩ : ∃ r, r = ad G q := ⟨_, rfl⟩
        obtain ⟨s2, hs2⟩ : ∃ r, r = ad s1 E := ⟨_, rfl⟩
        have a1 : IntKind.u32.wrap ((G : Int) + (q : Int)) = (s1 : Int) := by rw [IntKind.wrap_u32', hs1]; unfold ad; omega
        have a2 : IntKind.u32.wrap ((s1 : Int) + (E : Int)) = (s2 : Int) := by rw [IntKind.wrap_u32', hs2]; unfold ad; omega
        have a3 : IntKind.u32.wrap ((s2 : Int) + (p : Int)) = (nw : Int) := by rw [IntKind.wrap_u32', hs2, hs1, HNX.out, hE, hG]; unfold ad; omega
        have R1 := hid (fun w => (show Calls Tryz.prog 150 #[.int .u32 (x : Int), .int .u64 7] w (fun e w' => e = .returned (.int .u32 ((rot x 25 : Nat) : Int)) ∧ w' = w) from turn_q x 7 25 rfl (by omega) (by omega) h1 w))
        have R2 := hid (fun w => (show Calls Tryz.prog 150 #[.int .u32 (x : Int), .int .u64 18] w (fun e w' => e = .returned (.int .u32 ((rot x 14 : Nat) : Int)) ∧ w' = w) from turn_q x 18 14 rfl (by omega) (by omega) h1 w))
        have R3 := hid (fun w => (show Calls Tryz.prog 150 #[.int .u32 (y : Int), .int .u64 17] w (fun e w' => e = .returned (.int .u32 ((rot y 15 : Nat) : Int)) ∧ w' = w) from turn_q y 17 15 rfl (by omega) (by omega) h2 w))
        have R4 := hid (fun w => (show Calls Tryz.prog 150 #[.int .u32 (y : Int), .int .u64 19] w (fun e w' => e = .returned (.int .u32 ((rot y 13 : Nat) : Int)) ∧ w' = w) from turn_q y 19 13 rfl (by omega) (by omega) h2 w))
        rw [← hr1] at R1
        rw [← hr2] at R2
        rw [← hr3] at R3
        rw [← hr4] at R4
        clear hr1 hr2 hr3 hr4 hx8 hy9 hE hG hr12 hr34 hs1 hs2 HNX
        go_upto_region 7 with fail
        go_quiet ((go_at_call 150; first | with_reducible exact Calls.quiet_of_same (R1.out _) | with_reducible exact Calls.quiet_of_same (R2.out _)))
        obtain ⟨wy, hwy⟩ : ∃ q, q = wr.drewN nq := ⟨_, rfl⟩
        have HHP := hid (show wy.heap[w.heap.size + 1 + 1 + 1]? = wr.heap[w.heap.size + 1 + 1 + 1]? from by rw [hwy]; rfl)
        have HKY := hid (show Kept (w.heap.size + 1 + 1 + 1) w1 wy from by rw [hwy]; exact HK.out.drewN nq)
        rw [← hwy]
        have hc9 : ∀ ad, wy.cell? ad = wr.cell? ad := fun ad => by rw [hwy]; rfl
        have hf9 : ∀ ad, wy.frozen? ad = wr.frozen? ad := fun ad => by rw [hwy]; rfl
        rw [← hc9] at g1 g2 g3 g4 g5
        rw [← hf9] at f1
        clear hwy HK HO hc9 hf9
        go_upto_region 8 with fail
        go_quiet ((go_at_call 150; first | with_reducible exact Calls.quiet_of_same (R3.out _) | with_reducible exact Calls.quiet_of_same (R4.out _)))
        obtain ⟨wz, hwz⟩ : ∃ q, q = wy.drewN nq := ⟨_, rfl⟩
        have HHZ := hid (show wz.heap[w.heap.size + 1 + 1 + 1]? = wr.heap[w.heap.size + 1 + 1 + 1]? from by rw [hwz]; exact HHP.out)
        have HKZ := hid (show Kept (w.heap.size + 1 + 1 + 1) w1 wz from by rw [hwz]; exact HKY.out.drewN nq)
        rw [← hwz]
        have hc9 : ∀ ad, wz.cell? ad = wy.cell? ad := fun ad => by rw [hwz]; rfl
        have hf9 : ∀ ad, wz.frozen? ad = wy.frozen? ad := fun ad => by rw [hwz]; rfl
        rw [← hc9] at g1 g2 g3 g4 g5
        rw [← hf9] at f1
        clear hwz HKY HHP hc9 hf9
        go_upto_region 9 with fail
        refine region_quiet_tail 15 (by kernel_rfl) (by kernel_rfl) ?_
        simp only [List.take_succ_cons, List.take_zero, List.drop_succ_cons, List.drop_zero]
        repeat (quiet_step (fail))
        refine wpQuiet_nil ?_
        intro nq2
        go_wp2
        exact ⟨⟨t + 1, by omega, by go_num, hid (HST.out (wz.drewN nq2) HHZ.out), hid ((HKZ.out.drewN nq2).setCell (p := ⟨w.heap.size + 1 + 1 + 1, t, none⟩) rfl _)⟩, by simp [intOf]; omega⟩
    case neg => as_aux_lemma =>
      obtain rfl : t = 64 := by omega
      have hT : ¬ ((64 : Nat) : Int) < 64 := by omega
      have hT2 : ¬ (64 : Int) < 64 := by omega
      obtain ⟨L, hL⟩ : ∃ L, L = schL (fun j => l.getD j 0) 48 := ⟨_, rfl⟩
      have HL := hid hL
      have HWW := hid (show OwnW wr (w.heap.size + 1 + 1 + 1) L from by rw [hL, ← rL_last]; exact HO.out)
      have hsz1 := HS.out.siz
      have HVH := hid (show OwnV wr w.heap.size h from (HK.out.block _ (by omega) (by omega)).trans HS.out.hh)
      have HKK := hid (show OwnW wr (w.heap.size + 1) K from (HK.out.block _ (by omega) (by omega)).trans HS.out.kk)
      have HRR := hid (show OwnV wr (w.heap.size + 1 + 1) (List.replicate 8 0) from (HK.out.block _ (by omega) (by omega)).trans HS.out.rr)
      have HBB := hid (HS.out.bel.trans (HK.out.below HS.out.bel.size (by omega)))
      have hszr := HK.out.size
      clear hL HO HK HB1 HBL
      have HRA := hid (show wr.rangeAt w.heap.size 0 (u32s h) from fun j v hj => by rw [Nat.zero_add, cell_of_heap HVH.out, List.getElem?_toArray]; exact hj)
      have h8 : (u32s h).length = 8 := by rw [u32s_length]; exact HHH.out.1
      have HIF := hid (show (Tryz.prog.info? 180).map (·.size) = some (u32s h).length from by rw [h8]; kernel_rfl)
      have HIF2 := hid (show (Tryz.prog.info? 180).map (·.size) = some (u32s h).toArray.size from by rw [List.size_toArray]; exact HIF.out)
      have HS8 := hid (show 8 = (u32s h).toArray.size from by rw [List.size_toArray, h8])
      clear h8
      obtain ⟨wo, rfl⟩ : ∃ q, q = wr := ⟨_, rfl⟩
      go_wp2_with (first
        | (refine wpList_load_mid (by rfl) 180 (.tmp 3) (by rfl) w.heap.size 0 (by rfl) (u32s h) _ HRA.out Tryz.underlying180 rfl HIF.out ?_)
        | (refine wpList_store_row (by rfl) 180 (.tmp 11) (.tmp 110) (by rfl) wo.heap.size _ (u32s h).toArray _ (by rfl) (by rfl) (heap_new _ _) HIF2.out HS8.out (u32s_one h) ?_
           intro w5 hw5 hk5))
      have hk5w : Kept wo.heap.size wo w5 := ((Kept.of_below ((Below.refl _ _).alloc (Nat.le_refl _) _)).trans hk5)
      have HK5 := hid hk5w
      have hl8 : (St.list (stOf h)) = h := by
        refine getD_ext2 (by rw [HHH.out.1]; rfl) fun j hj => ?_
        have hj8 : j < 8 := hj
        match j, hj8 with
        | 0, _ => rfl
        | 1, _ => rfl
        | 2, _ => rfl
        | 3, _ => rfl
        | 4, _ => rfl
        | 5, _ => rfl
        | 6, _ => rfl
        | 7, _ => rfl
      obtain ⟨s0, hs0⟩ : ∃ s, s = stOf h := ⟨_, rfl⟩
      obtain ⟨KF, hKF⟩ : ∃ KF : Nat → Nat, KF = fun i => K.getD i 0 := ⟨_, rfl⟩
      obtain ⟨WF, hWF⟩ : ∃ WF : Nat → Nat, WF = fun t => L.getD t 0 := ⟨_, rfl⟩
      have hok0 : s0.Ok := by rw [hs0]; exact stOf_ok HHH.out.2.1
      have HOK0 := hid hok0
      have HS0 := hid hs0
      have HKF := hid hKF
      have HWF := hid hWF
      obtain ⟨vb, hvb⟩ : ∃ q, q = wo.heap.size := ⟨_, rfl⟩
      rw [← hvb] at hw5 hk5w HK5 ⊢
      have hvbl : w.heap.size + 1 + 1 + 1 < vb := by omega
      have HV5 := hid (show OwnV w5 vb (St.list (rnd s0 KF WF 0)) from by
        show w5.heap[vb]? = _
        rw [show rnd s0 KF WF 0 = s0 from rfl, hs0, hl8]
        exact hw5)
      have hL64 : L.length = 64 := by rw [HL.out]; exact schL_length _ 48
      have hLlt : ∀ q, L.getD q 0 < 4294967296 := fun q => by
        rw [List.getD_eq_getElem?_getD]
        by_cases h : q < L.length
        · rw [List.getElem?_eq_getElem h]; exact schL_lt (c := fun j => l.getD j 0) HLT.out 48 _ (by rw [← HL.out]; exact List.getElem_mem _)
        · rw [List.getElem?_eq_none (by omega)]; decide
      have HL64 := hid hL64
      have HLL2 := hid hLlt
      have HVB := hid hvb
      have HW5' := hid (show OwnW w5 (w.heap.size + 1 + 1 + 1) L from (HK5.out.block _ (by omega) (by omega)).trans HWW.out)
      have HK5' := hid (show OwnW w5 (w.heap.size + 1) K from (HK5.out.block _ (by omega) (by omega)).trans HKK.out)
      have HH5 := hid (show OwnV w5 w.heap.size h from (HK5.out.block _ (by omega) (by omega)).trans HVH.out)
      have HR5 := hid (show OwnV w5 (w.heap.size + 1 + 1) (List.replicate 8 0) from (HK5.out.block _ (by omega) (by omega)).trans HRR.out)
      have HBB5 := hid (HBB.out.trans (HK5.out.below HBB.out.size (by omega)))
      clear hw5 hk5 hk5w hl8 hs0 hKF hWF hok0 hL64 hLlt hvb HVH HKK HRR HRA HWW HBB
      go_loopw [12] (fun iv wr => ∃ t : Nat, t ≤ 64 ∧ iv = .int .i64 t ∧ Hid (OwnV wr vb (St.list (rnd s0 KF WF t))) ∧ Hid (Kept vb w5 wr)) (fun iv _ => 64 - (intOf iv).toNat)
      case atStart => exact ⟨0, by omega, rfl, HV5, hid (Kept.refl _ _)⟩
      case round =>
        clear HV5
        obtain ⟨t, ht, rfl, HV, HK⟩ := hrel
        by_cases ht64 : t < 64
        case pos => as_aux_lemma =>
          have hT : (t : Int) < 64 := by omega
          have hok := rnd_ok HOK0.out KF WF t
          have HSTEP := hid (show rnd s0 KF WF (t + 1) = (rnd s0 KF WF t).step (KF t) (WF t) from rfl)
          generalize rnd s0 KF WF t = S at *
          obtain ⟨a, b, c1, d, e, f, g, k1⟩ := S
          have oa := hok.a
          have ob := hok.b
          have oc := hok.c
          have od := hok.d
          have oe := hok.e
          have of := hok.f
          have og := hok.g
          have oh := hok.h
          simp only at oa ob oc od oe of og oh
          clear hok
          have hsz5 := HBB5.out.size
          have c_0 : wr.cell? ⟨vb, 0, none⟩ = some (.int .u32 (a : Int)) := HV.out.cell 0 (show (0 : Nat) < 8 from by decide)
          have c_1 : wr.cell? ⟨vb, 1, none⟩ = some (.int .u32 (b : Int)) := HV.out.cell 1 (show (1 : Nat) < 8 from by decide)
          have c_2 : wr.cell? ⟨vb, 2, none⟩ = some (.int .u32 (c1 : Int)) := HV.out.cell 2 (show (2 : Nat) < 8 from by decide)
          have c_3 : wr.cell? ⟨vb, 3, none⟩ = some (.int .u32 (d : Int)) := HV.out.cell 3 (show (3 : Nat) < 8 from by decide)
          have c_4 : wr.cell? ⟨vb, 4, none⟩ = some (.int .u32 (e : Int)) := HV.out.cell 4 (show (4 : Nat) < 8 from by decide)
          have c_5 : wr.cell? ⟨vb, 5, none⟩ = some (.int .u32 (f : Int)) := HV.out.cell 5 (show (5 : Nat) < 8 from by decide)
          have c_6 : wr.cell? ⟨vb, 6, none⟩ = some (.int .u32 (g : Int)) := HV.out.cell 6 (show (6 : Nat) < 8 from by decide)
          have c_7 : wr.cell? ⟨vb, 7, none⟩ = some (.int .u32 (k1 : Int)) := HV.out.cell 7 (show (7 : Nat) < 8 from by decide)
          have hKW : OwnW wr (w.heap.size + 1) K := (HK.out.block _ (lt_of_heap HK5'.out) (by omega)).trans HK5'.out
          have hWW : OwnW wr (w.heap.size + 1 + 1 + 1) L := (HK.out.block _ (lt_of_heap HW5'.out) (by omega)).trans HW5'.out
          have ck := hKW.cell t (by rw [HHH.out.2.2.1]; exact ht64)
          have cw := hWW.cell t (by rw [HL64.out]; exact ht64)
          rw [show K.getD t 0 = KF t from by rw [HKF.out]] at ck
          rw [show L.getD t 0 = WF t from by rw [HWF.out]] at cw
          have hwx : WF t < 4294967296 := by rw [HWF.out]; exact HLL2.out t
          have hkx : KF t < 4294967296 := by rw [HKF.out]; exact HHH.out.2.2.2 t
          generalize WF t = x at *
          generalize KF t = kc at *
          clear hKW hWW
          have HSTA := hid (St.step_a ⟨a, b, c1, d, e, f, g, k1⟩ kc x)
          have HSTE := hid (St.step_e ⟨a, b, c1, d, e, f, g, k1⟩ kc x)
          simp only at HSTA HSTE
          obtain ⟨r1, hr1⟩ : ∃ r, r = rot e 26 := ⟨_, rfl⟩
          obtain ⟨r2, hr2⟩ : ∃ r, r = rot e 21 := ⟨_, rfl⟩
          obtain ⟨r3, hr3⟩ : ∃ r, r = rot e 7 := ⟨_, rfl⟩
          obtain ⟨r4, hr4⟩ : ∃ r, r = rot a 30 := ⟨_, rfl⟩
          obtain ⟨r5, hr5⟩ : ∃ r, r = rot a 19 := ⟨_, rfl⟩
          obtain ⟨r6, hr6⟩ : ∃ r, r = rot a 10 := ⟨_, rfl⟩
          have l1 : r1 < 4294967296 := by rw [hr1]; exact rot_lt oe _
          have l2 : r2 < 4294967296 := by rw [hr2]; exact rot_lt oe _
          have l3 : r3 < 4294967296 := by rw [hr3]; exact rot_lt oe _
          have l4 : r4 < 4294967296 := by rw [hr4]; exact rot_lt oa _
          have l5 : r5 < 4294967296 := by rw [hr5]; exact rot_lt oa _
          have l6 : r6 < 4294967296 := by rw [hr6]; exact rot_lt oa _
          obtain ⟨r12, h12⟩ : ∃ r, r = r1 ^^^ r2 := ⟨_, rfl⟩
          obtain ⟨r45, h45⟩ : ∃ r, r = r4 ^^^ r5 := ⟨_, rfl⟩
          have l12 : r12 < 4294967296 := by rw [h12]; exact xor_lt32 l1 l2
          have l45 : r45 < 4294967296 := by rw [h45]; exact xor_lt32 l4 l5
          obtain ⟨Ez, hEz⟩ : ∃ r, r = bsE e := ⟨_, rfl⟩
          obtain ⟨Az, hAz⟩ : ∃ r, r = bsA a := ⟨_, rfl⟩
          obtain ⟨Cz, hCz⟩ : ∃ r, r = chs e f g := ⟨_, rfl⟩
          obtain ⟨Mz, hMz⟩ : ∃ r, r = maj a b c1 := ⟨_, rfl⟩
          obtain ⟨n1, hn1⟩ : ∃ r, r = e &&& f := ⟨_, rfl⟩
          obtain ⟨ne, hne⟩ : ∃ r, r = 4294967295 ^^^ e := ⟨_, rfl⟩
          obtain ⟨n2, hn2⟩ : ∃ r, r = ne &&& g := ⟨_, rfl⟩
          obtain ⟨m1, hm1⟩ : ∃ r, r = a &&& b := ⟨_, rfl⟩
          obtain ⟨m2, hm2⟩ : ∃ r, r = a &&& c1 := ⟨_, rfl⟩
          obtain ⟨m3, hm3⟩ : ∃ r, r = b &&& c1 := ⟨_, rfl⟩
          obtain ⟨m12, hm12⟩ : ∃ r, r = m1 ^^^ m2 := ⟨_, rfl⟩
          have ln1 : n1 < 4294967296 := by rw [hn1]; exact and_lt32 oe _
          have lne : ne < 4294967296 := by rw [hne]; exact xor_lt32 (by omega) oe
          have ln2 : n2 < 4294967296 := by rw [hn2]; exact and_lt32 lne _
          have lm1 : m1 < 4294967296 := by rw [hm1]; exact and_lt32 oa _
          have lm2 : m2 < 4294967296 := by rw [hm2]; exact and_lt32 oa _
          have lm3 : m3 < 4294967296 := by rw [hm3]; exact and_lt32 ob _
          have lm12 : m12 < 4294967296 := by rw [hm12]; exact xor_lt32 lm1 lm2
          have e1 : bits .xor .u32 (r1 : Int) (r2 : Int) = (r12 : Int) := by rw [h12]; exact u32_xor_nat r1 r2 l1 l2
          have e2 : bits .xor .u32 (r12 : Int) (r3 : Int) = (Ez : Int) := by rw [u32_xor_nat r12 r3 l12 l3, hEz, h12, hr1, hr2, hr3]; rfl
          have e3 : bits .xor .u32 (r4 : Int) (r5 : Int) = (r45 : Int) := by rw [h45]; exact u32_xor_nat r4 r5 l4 l5
          have e4 : bits .xor .u32 (r45 : Int) (r6 : Int) = (Az : Int) := by rw [u32_xor_nat r45 r6 l45 l6, hAz, h45, hr4, hr5, hr6]; rfl
          have e5 : bits .and .u32 (e : Int) (f : Int) = (n1 : Int) := by rw [hn1]; exact u32_and_nat e f oe of
          have e6 : bits .xor .u32 IntKind.u32.max (e : Int) = (ne : Int) := by rw [hne]; exact u32_xor_nat 4294967295 e (by omega) oe
          have e6' : bits .xor .u32 (if IntKind.u32.signed = true then -1 else IntKind.u32.max) (e : Int) = (ne : Int) := e6
          have e7 : bits .and .u32 (ne : Int) (g : Int) = (n2 : Int) := by rw [hn2]; exact u32_and_nat ne g lne og
          have e8 : bits .xor .u32 (n1 : Int) (n2 : Int) = (Cz : Int) := by rw [u32_xor_nat n1 n2 ln1 ln2, hCz, hn1, hn2, hne]; rfl
          have e9 : bits .and .u32 (a : Int) (b : Int) = (m1 : Int) := by rw [hm1]; exact u32_and_nat a b oa ob
          have e10 : bits .and .u32 (a : Int) (c1 : Int) = (m2 : Int) := by rw [hm2]; exact u32_and_nat a c1 oa oc
          have e11 : bits .and .u32 (b : Int) (c1 : Int) = (m3 : Int) := by rw [hm3]; exact u32_and_nat b c1 ob oc
          have e12 : bits .xor .u32 (m1 : Int) (m2 : Int) = (m12 : Int) := by rw [hm12]; exact u32_xor_nat m1 m2 lm1 lm2
          have e13 : bits .xor .u32 (m12 : Int) (m3 : Int) = (Mz : Int) := by rw [u32_xor_nat m12 m3 lm12 lm3, hMz, hm12, hm1, hm2, hm3]; rfl
          rw [← hEz, ← hAz, ← hCz, ← hMz] at HSTA
          rw [← hEz, ← hCz] at HSTE
          obtain ⟨z1, hz1⟩ : ∃ r, r = ad k1 Ez := ⟨_, rfl⟩
          obtain ⟨z2, hz2⟩ : ∃ r, r = ad z1 Cz := ⟨_, rfl⟩
          obtain ⟨z3, hz3⟩ : ∃ r, r = ad z2 kc := ⟨_, rfl⟩
          obtain ⟨T1, hT1⟩ : ∃ r, r = ad z3 x := ⟨_, rfl⟩
          obtain ⟨T2, hT2⟩ : ∃ r, r = ad Az Mz := ⟨_, rfl⟩
          obtain ⟨na, hna⟩ : ∃ r, r = ad T1 T2 := ⟨_, rfl⟩
          obtain ⟨nwe, hnwe⟩ : ∃ r, r = ad d T1 := ⟨_, rfl⟩
          have b1 : IntKind.u32.wrap ((k1 : Int) + (Ez : Int)) = (z1 : Int) := by rw [IntKind.wrap_u32', hz1]; unfold ad; omega
          have b2 : IntKind.u32.wrap ((z1 : Int) + (Cz : Int)) = (z2 : Int) := by rw [IntKind.wrap_u32', hz2]; unfold ad; omega
          have b3 : IntKind.u32.wrap ((z2 : Int) + (kc : Int)) = (z3 : Int) := by rw [IntKind.wrap_u32', hz3]; unfold ad; omega
          have b4 : IntKind.u32.wrap ((z3 : Int) + (x : Int)) = (T1 : Int) := by rw [IntKind.wrap_u32', hT1]; unfold ad; omega
          have b5 : IntKind.u32.wrap ((Az : Int) + (Mz : Int)) = (T2 : Int) := by rw [IntKind.wrap_u32', hT2]; unfold ad; omega
          have b6 : IntKind.u32.wrap ((T1 : Int) + (T2 : Int)) = (na : Int) := by rw [IntKind.wrap_u32', hna]; unfold ad; omega
          have b7 : IntKind.u32.wrap ((d : Int) + (T1 : Int)) = (nwe : Int) := by rw [IntKind.wrap_u32', hnwe]; unfold ad; omega
          have HNS := hid (show (rnd s0 KF WF (t + 1)).list = [na, a, b, c1, nwe, e, f, g] from by
            rw [HSTEP.out]
            show [(St.step ⟨a, b, c1, d, e, f, g, k1⟩ kc x).a, a, b, c1, (St.step ⟨a, b, c1, d, e, f, g, k1⟩ kc x).e, e, f, g] = _
            have q1 : (k1 + Ez + Cz + kc + x + Az + Mz) % 4294967296 = na := by rw [hna, hT1, hT2, hz3, hz2, hz1]; unfold ad; omega
            have q2 : (d + (k1 + Ez + Cz + kc + x)) % 4294967296 = nwe := by rw [hnwe, hT1, hz3, hz2, hz1]; unfold ad; omega
            rw [HSTA.out, HSTE.out, q1, q2])
          have R1 := hid (fun w => (show Calls Tryz.prog 150 #[.int .u32 (e : Int), .int .u64 6] w (fun e' w' => e' = .returned (.int .u32 ((rot e 26 : Nat) : Int)) ∧ w' = w) from turn_q e 6 26 rfl (by omega) (by omega) oe w))
          have R2 := hid (fun w => (show Calls Tryz.prog 150 #[.int .u32 (e : Int), .int .u64 11] w (fun e' w' => e' = .returned (.int .u32 ((rot e 21 : Nat) : Int)) ∧ w' = w) from turn_q e 11 21 rfl (by omega) (by omega) oe w))
          have R3 := hid (fun w => (show Calls Tryz.prog 150 #[.int .u32 (e : Int), .int .u64 25] w (fun e' w' => e' = .returned (.int .u32 ((rot e 7 : Nat) : Int)) ∧ w' = w) from turn_q e 25 7 rfl (by omega) (by omega) oe w))
          have R4 := hid (fun w => (show Calls Tryz.prog 150 #[.int .u32 (a : Int), .int .u64 2] w (fun e' w' => e' = .returned (.int .u32 ((rot a 30 : Nat) : Int)) ∧ w = w') from turn_any a 2 30 rfl (by omega) (by omega) oa w))
          have R5 := hid (fun w => (show Calls Tryz.prog 150 #[.int .u32 (a : Int), .int .u64 13] w (fun e' w' => e' = .returned (.int .u32 ((rot a 19 : Nat) : Int)) ∧ w = w') from turn_any a 13 19 rfl (by omega) (by omega) oa w))
          have R6 := hid (fun w => (show Calls Tryz.prog 150 #[.int .u32 (a : Int), .int .u64 22] w (fun e' w' => e' = .returned (.int .u32 ((rot a 10 : Nat) : Int)) ∧ w = w') from turn_any a 22 10 rfl (by omega) (by omega) oa w))
          rw [← hr1] at R1
          rw [← hr2] at R2
          rw [← hr3] at R3
          rw [← hr4] at R4
          rw [← hr5] at R5
          rw [← hr6] at R6
          clear hr1 hr2 hr3 hr4 hr5 hr6 h12 h45 hEz hAz hCz hMz hn1 hne hn2 hm1 hm2 hm3 hm12 hz1 hz2 hz3 hT1 hT2 hna hnwe HSTA HSTE HSTEP
          go_upto_region 14 with fail
          go_quiet (fail)
          obtain ⟨wy, hwy⟩ : ∃ q, q = wr.drewN nq := ⟨_, rfl⟩
          have hc9 : ∀ ad, wy.cell? ad = wr.cell? ad := fun ad => by rw [hwy]; rfl
          have HKY := hid (show Kept vb w5 wy from by rw [hwy]; exact HK.out.drewN nq)
          have HVwy := hid (show OwnV wy vb [a, b, c1, d, e, f, g, k1] from by rw [hwy]; exact HV.out)
          rw [← hc9] at c_0 c_1 c_2 c_3 c_4 c_5 c_6 c_7 ck cw
          rw [← hwy]
          clear hwy hc9 HK HV
          go_upto_region 17 with fail
          go_quiet ((go_at_call 150; first | with_reducible exact Calls.quiet_of_same (R1.out _) | with_reducible exact Calls.quiet_of_same (R2.out _) | with_reducible exact Calls.quiet_of_same (R3.out _)))
          obtain ⟨wz, hwz⟩ : ∃ q, q = wy.drewN nq := ⟨_, rfl⟩
          have hc9 : ∀ ad, wz.cell? ad = wy.cell? ad := fun ad => by rw [hwz]; rfl
          have HKZ := hid (show Kept vb w5 wz from by rw [hwz]; exact HKY.out.drewN nq)
          have HVwz := hid (show OwnV wz vb [a, b, c1, d, e, f, g, k1] from by rw [hwz]; exact HVwy.out)
          rw [← hc9] at c_0 c_1 c_2 c_3 c_4 c_5 c_6 c_7 ck cw
          rw [← hwz]
          clear hwz hc9 HKY HVwy
          have HI8 := hid (show (Tryz.prog.info? 180).map (·.size) = some 8 from by kernel_rfl)
          go_wp2_with fail
          refine (R4.out _).mono ?_
          rintro e9 w9 ⟨rfl, rfl⟩
          go_wp2_with fail
          refine (R5.out _).mono ?_
          rintro e9 w9 ⟨rfl, rfl⟩
          go_wp2_with fail
          refine (R6.out _).mono ?_
          rintro e9 w9 ⟨rfl, rfl⟩
          go_upto_region 19 with fail
          as_aux_lemma =>
          refine wp_region_lit ?_
          refine wpList_then 17 ?_
          simp only [List.take_succ_cons, List.take_zero, List.drop_succ_cons, List.drop_zero]
          refine hide_then ?_
          intro R hR
          have HR := hid hR
          clear hR
          go_wp2
          rw [HR.out]
          refine wpList_build8 (by rfl) (.tmp 177) (.tmp 178) (.tmp 180) (.tmp 182) (.tmp 186) (.tmp 187) (.tmp 189) (.tmp 191) (by rfl) na a b c1 nwe e f g (by rfl) (by rfl) (by rfl) (by rfl) (by rfl) (by rfl) (by rfl) (by rfl) ?_
          intro CA hCA
          have HCA := hid hCA
          have HCS := hid (show (8 : Nat) = CA.size from by rw [hCA]; rfl)
          have HCI := hid (show (Tryz.prog.info? 180).map (·.size) = some CA.size from by rw [← HCS.out]; exact HI8.out)
          have HC1 := hid (show CA.all (·.oneCell') = true from by rw [hCA]; exact u32s_one _)
          clear hCA
          refine wpList_store_row (by rfl) 180 (.tmp 11) (.tmp 192) (by rfl) vb _ CA _ (by rfl) (by rfl) HVwz.out HCI.out HCS.out HC1.out ?_
          intro w8 hw8 hk8
          have HV8 := hid (show OwnV w8 vb [na, a, b, c1, nwe, e, f, g] from by show w8.heap[vb]? = _; rw [hw8, HCA.out])
          have HK8 := hid (HKZ.out.trans hk8)
          clear hw8 hk8
          go_wp2
          rw [← HNS.out] at HV8
          exact ⟨⟨t + 1, by omega, by go_num, HV8, HK8⟩, by simp [intOf]; omega⟩
        case neg => as_aux_lemma =>
          obtain rfl : t = 64 := by omega
          obtain ⟨w6, hw6⟩ : ∃ q, q = wr := ⟨_, rfl⟩
          have HLIST := hid (show (rnd s0 KF WF 64).list = (rnd (stOf h) (fun i => K.getD i 0) (fun t => (schL (fun j => l.getD j 0) 48).getD t 0) 64).list from by rw [HS0.out, HKF.out, HWF.out, HL.out])
          have hvok : ∀ j, (rnd s0 KF WF 64).list.getD j 0 < 4294967296 := fun j => by
            have hok := rnd_ok HOK0.out KF WF 64
            generalize rnd s0 KF WF 64 = S at *
            obtain ⟨a, b, c1, d, e, f, g, k1⟩ := S
            match j with
            | 0 => exact hok.a
            | 1 => exact hok.b
            | 2 => exact hok.c
            | 3 => exact hok.d
            | 4 => exact hok.e
            | 5 => exact hok.f
            | 6 => exact hok.g
            | 7 => exact hok.h
            | j + 8 => show ([] : List Nat).getD j 0 < _; rw [List.getD_nil]; decide
          have HVOK := hid hvok
          have hvl8 : (rnd s0 KF WF 64).list.length = 8 := rfl
          obtain ⟨VL, hVL⟩ : ∃ q, q = (rnd s0 KF WF 64).list := ⟨_, rfl⟩
          rw [← hVL] at HV HLIST HVOK hvl8
          have HVL8 := hid hvl8
          have hsz5 := HBB5.out.size
          have HBB6 := hid (HBB5.out.trans (HK.out.below hsz5 (by omega)))
          have HH6 := hid (show OwnV wr w.heap.size (cmpTo (fun i => K.getD i 0) h (fun j => l.getD j 0) 0) from by rw [cmpTo_zero _ _ _ HHH.out.1]; exact (HK.out.block _ (lt_of_heap HH5.out) (by omega)).trans HH5.out)
          have HR6 := hid (show OwnV wr (w.heap.size + 1 + 1) (List.replicate 8 0) from (HK.out.block _ (lt_of_heap HR5.out) (by omega)).trans HR5.out)
          have HV6 := hid (show OwnV w6 vb VL from by rw [hw6]; exact HV.out)
          have HK6 := hid (show Kept w.heap.size w6 wr from by rw [hw6]; exact Kept.refl _ _)
          have HBB66 := hid (show Below w.heap.size w w6 from by rw [hw6]; exact HBB6.out)
          have HR66 := hid (show OwnV w6 (w.heap.size + 1 + 1) (List.replicate 8 0) from by rw [hw6]; exact HR6.out)
          have hT3 : ¬ ((64 : Nat) : Int) < 64 := by omega
          clear hw6 hvok hvl8 hVL HV HK HBB6 HR6 HR5 HH5 HBB5 HK5 HW5' HK5'
          go_wp2
          go_loopw [19] (fun iv wr => ∃ i : Nat, i ≤ 8 ∧ iv = .int .i64 i ∧ Hid (OwnV wr w.heap.size (cmpTo (fun i => K.getD i 0) h (fun j => l.getD j 0) i)) ∧ Hid (Kept w.heap.size w6 wr)) (fun iv _ => 8 - (intOf iv).toNat)
          case atStart => exact ⟨0, by omega, rfl, HH6, HK6⟩
          case round =>
            clear HH6 HK6
            obtain ⟨i, hi, rfl, HH7, HK7⟩ := hrel
            by_cases hi8 : i < 8
            · have hI : (i : Int) < 8 := by omega
              have c1' := HH7.out.cell i (by rw [cmpTo_length]; exact hi8)
              rw [cmpTo_getD _ _ _ _ _ hi8, if_neg (by omega)] at c1'
              have f1 := HH7.out.free i
              have c2' := (show OwnV wr vb VL from (HK7.out.block _ (lt_of_heap HV6.out) (by omega)).trans HV6.out).cell i (by rw [HVL8.out]; exact hi8)
              have hvv := HVOK.out i
              have hlv := congrArg (fun l => l.getD i 0) HLIST.out
              generalize VL.getD i 0 = v at *
              have hst := fun nq => (show OwnV (wr.drewN nq) w.heap.size _ from HH7.out).set i (ad (h.getD i 0) v)
              rw [cmpTo_step _ _ _ _ _ hi8 hlv] at hst
              have HST := hid hst
              have hpl := HHH.out.2.1 i
              clear hst hlv
              generalize h.getD i 0 = p at *
              have hadd : IntKind.u32.wrap ((p : Int) + (v : Int)) = ((ad p v : Nat) : Int) := by rw [IntKind.wrap_u32']; unfold ad; omega
              go_wp2
              refine region_quiet_tail 8 (by kernel_rfl) (by kernel_rfl) ?_
              simp only [List.take_succ_cons, List.take_zero, List.drop_succ_cons, List.drop_zero]
              repeat (quiet_step (fail))
              refine wpQuiet_nil ?_
              intro nq
              go_wp2
              exact ⟨⟨i + 1, by omega, by go_num, hid (HST.out nq), hid ((HK7.out.drewN nq).setCell (p := ⟨w.heap.size, i, none⟩) rfl _)⟩, by simp [intOf]; omega⟩
            · obtain rfl : i = 8 := by omega
              have hI : ¬ (8 : Int) < 8 := by omega
              have hI2 : ¬ ((8 : Nat) : Int) < 8 := by omega
              obtain ⟨RL, hRL⟩ : ∃ q, q = cmp (fun i => K.getD i 0) h (fun j => l.getD j 0) := ⟨_, rfl⟩
              have HRL := hid hRL
              have HF7 := hid (show OwnV wr w.heap.size RL from by rw [hRL]; exact HH7.out)
              have hrl8 : RL.length = 8 := by rw [hRL]; exact cmpTo_length _ _ _ _
              have HRR7 := hid (show OwnV wr (w.heap.size + 1 + 1) (List.replicate 8 0) from (HK7.out.block _ (lt_of_heap HR66.out) (by omega)).trans HR66.out)
              have HBB7 := hid (HBB66.out.trans (HK7.out.below HBB66.out.size (Nat.le_refl _)))
              clear hRL HH7 HR66 HBB66 HK7 HV6
              have HRA := hid (show wr.rangeAt w.heap.size 0 (u32s RL) from fun j v hj => by rw [Nat.zero_add, cell_of_heap HF7.out, List.getElem?_toArray]; exact hj)
              have h8 : (u32s RL).length = 8 := by rw [u32s_length]; exact hrl8
              have HIF := hid (show (Tryz.prog.info? 180).map (·.size) = some (u32s RL).length from by rw [h8]; kernel_rfl)
              have HIF2 := hid (show (Tryz.prog.info? 180).map (·.size) = some (u32s RL).toArray.size from by rw [List.size_toArray]; exact HIF.out)
              have HS8 := hid (show (u32s (List.replicate 8 0)).toArray.size = (u32s RL).toArray.size from by rw [List.size_toArray, List.size_toArray, h8]; rfl)
              clear h8 hrl8
              go_wp2_with (first
                | (refine wpList_load_mid (by rfl) 180 (.tmp 3) (by rfl) w.heap.size 0 (by rfl) (u32s RL) _ HRA.out Tryz.underlying180 rfl HIF.out ?_)
                | (refine wpList_store_row (by rfl) 180 (.tmp 6) (.tmp 205) (by rfl) (w.heap.size + 1 + 1) _ (u32s RL).toArray _ (by rfl) (by rfl) HRR7.out HIF2.out HS8.out (u32s_one RL) ?_
                   intro w9 hw9 hk9))
              have hres : (loadVar 180 ⟨w.heap.size + 1 + 1, 0, none⟩).run Tryz.prog w9 = .ok (.agg (u32s RL).toArray) w9 := run_loadVar_row _ _ 180 180 _ (0, 0) _ hw9 Tryz.underlying180 rfl HIF2.out
              refine bodyPost_ret (v := .agg (u32s RL).toArray) (results_at Tryz.results127 rfl hres) rfl ⟨by rw [HRL.out]; simp only [List.getD_eq_getElem?_getD], ?_⟩
              exact HBB7.out.trans (hk9.below HBB7.out.size (by omega))
end Go.Proofs.YtjgiiciniplbnaaGreatDoor

namespace Go.Proofs.YtjgiiciniplbnaaGreatDoor
open Go Go.RowKit
set_option linter.unusedVariables false

/-- the first q bytes of the padding -/
def pt (sz q : Nat) : List Nat := (List.range q).map (padF sz 8)
theorem pt_succ (sz q : Nat) : pt sz (q + 1) = pt sz q ++ [padF sz 8 q] := by simp [pt, List.range_succ]
theorem pt_length (sz q : Nat) : (pt sz q).length = q := by simp [pt]
theorem pt_all (sz : Nat) : pt sz (padB sz + 8) = padL sz := rfl
theorem pt_lt (sz q : Nat) : ∀ x ∈ pt sz q, x < 256 := fun x h => by
  obtain ⟨i, _, rfl⟩ := List.mem_map.1 h
  exact padF_lt _ _ _
theorem padF_zero (sz q : Nat) (h1 : 1 ≤ q) (h2 : q < padB sz) : padF sz 8 q = 0 := by
  unfold padF
  rw [if_neg (by omega), if_neg (by omega)]
theorem padF_len (sz j : Nat) (hj : j < 8) : padF sz 8 (padB sz + j) = (sz * 8 / 2 ^ (56 - 8 * j)) % 256 := by
  have hb := padB_le sz
  unfold padF
  rw [if_neg (by omega), if_pos (by omega), Nat.add_sub_cancel_left]

theorem bs_subF {w : World} {a : Option Addr} {n c : Nat} {l : List Nat} (h : Bs w (.slice a n c) l) (hc : n ≤ c) (hnil : a = none → c = 0) (s e : Nat) (hs : s ≤ e) (he : e ≤ n) :
    ∃ a' c', (∀ w', (Instr.sliceAt 66 (.slice a n c) (some (.int .i64 (s : Int))) (some (.int .i64 (e : Int))) none).run Tryz.prog w' = .ok (.slice a' (e - s) c') w') ∧ Bs w (.slice a' (e - s) c') ((l.drop s).take (e - s)) ∧ e - s ≤ c' ∧ (a' = none → c' = 0) := by
  obtain ⟨a', c', h1, h2, h3, h4, _⟩ := bs_from0 (bs_upto h e he) (Nat.le_trans he hc) hnil s hs
  refine ⟨a', c', fun w' => ?_, by rw [List.drop_take] at h2; exact h2, h3, h4⟩
  rw [← h1 w']
  have u1 : (e : Int) ≤ (c : Int) := by omega
  have u2 : (0 : Int) ≤ (s : Int) := by omega
  have u3 : (s : Int) ≤ (e : Int) := by omega
  have u4 : (0 : Int) ≤ (e : Int) := by omega
  cases a <;> simp [go_sem, Tryz.underlying66, u1, u2, u3]
theorem cmp_ok (K : Nat → Nat) (h : List Nat) (c : Nat → Nat) : (cmp K h c).length = 8 ∧ ∀ i, (cmp K h c).getD i 0 < 4294967296 := by
  refine ⟨cmpTo_length _ _ _ _, fun i => ?_⟩
  by_cases hi : i < 8
  · unfold cmp
    rw [cmpTo_getD _ _ _ _ _ hi, if_pos hi]
    exact ad_lt _ _
  · rw [List.getD_eq_getElem?_getD, List.getElem?_eq_none (by rw [show (cmp K h c).length = 8 from cmpTo_length _ _ _ _]; omega)]
    decide
theorem hsK_ok (K : Nat → Nat) (H m : List Nat) (hh : H.length = 8) (ho : ∀ i, H.getD i 0 < 4294967296) : ∀ t, (hsK K H m t).length = 8 ∧ ∀ i, (hsK K H m t).getD i 0 < 4294967296
  | 0 => ⟨hh, ho⟩
  | t + 1 => cmp_ok _ _ _
theorem wpQuiet_load_cls {P : Program} {ops : Array Oper} {rest : List Oper} {o : Oper} {a : Act} {G : World → Prop} {Q : Act → Prop} (hgd : o.guard = none) (ty : TypeId) (x : Operand) (ho : o.op = .load ty x)
    (b off : Nat) (hx : a.eval x = .pointer (some ⟨b, off, none⟩)) (cs : List Value) (d : TypeDesc) (hc : ∀ p : Cls G, p.w.rangeAt b off cs)
    (hu : P.underlying ty = some d) (hd : d.isRow = true) (hi : (P.info? ty).map (·.size) = some cs.length)
    (h : ∀ C, C = cs.toArray → wpQuiet P ops (fun w' => ∃ p : Cls G, w' = p.w) Q rest (a.put o.dst (.agg C))) : wpQuiet P ops (fun w' => ∃ p : Cls G, w' = p.w) Q (o :: rest) a :=
  wpQuiet_step fun K hK => by
    rw [if_pos (by simp [Region.wanted, hgd])]
    refine ⟨.agg cs.toArray, ?_, hK _ (h _ rfl)⟩
    rintro w' ⟨p, rfl⟩
    have hr := run_loadVar_mid (P := P) p.w b off ty cs d (hc p) hu hd hi
    unfold Oper.quietAt execOp
    simp only [ho, hx, Instr.loadAt, Instr.sureAddr, Sem.run_bind, Sem.run_pure, Result.andThen_ok, hr]
    exact ⟨rfl, rfl⟩

set_option maxRecDepth 100000 in
set_option maxHeartbeats 4000000 in
theorem fold_any (H K l : List Nat) (a : Option Addr) (n c : Nat) (w : World) (hh : H.length = 8) (ho : ∀ i, H.getD i 0 < 4294967296) (hk : K.length = 64) (ko : ∀ i, K.getD i 0 < 4294967296) (hb : Bs w (.slice a n c) l) (hnil : a = none → c = 0) (hn : n ≤ 900000000) :
    Calls Tryz.prog 93 #[.slice a n c, .agg (u32s K).toArray, .agg (u32s H).toArray] w fun e w' => e = .returned (.agg (u8s (dig K H l)).toArray) ∧ Below w.heap.size w w' := by
  obtain ⟨w1, hw1⟩ : ∃ q, q = ((w.alloc (.cells (u32s K).toArray 179)).alloc (.cells (u32s H).toArray 180)).alloc (.cells (u8s (List.replicate 32 0)).toArray 23) := ⟨_, rfl⟩
  have hs1 : w1.heap.size = w.heap.size + 1 + 1 + 1 := by rw [hw1]; simp
  have hB1 : Below w.heap.size w w1 := by rw [hw1]; exact (((Below.refl _ _).alloc (Nat.le_refl _) _).alloc (by simp) _).alloc (by simp; omega) _
  have HK1 := hid (show OwnW w1 w.heap.size K from by rw [hw1]; exact heap_alloc (heap_alloc (heap_new _ _) _) _)
  have HH1 := hid (show OwnV w1 (w.heap.size + 1) H from by
    rw [hw1]
    have h5 := heap_new (w.alloc (.cells (u32s K).toArray 179)) (.cells (u32s H).toArray 180)
    rw [World.size_alloc] at h5
    exact heap_alloc h5 _)
  have HR1 := hid (show OwnD w1 (w.heap.size + 1 + 1) (List.replicate 32 0) from by
    rw [hw1]
    have h5 := heap_new ((w.alloc (.cells (u32s K).toArray 179)).alloc (.cells (u32s H).toArray 180)) (.cells (u8s (List.replicate 32 0)).toArray 23)
    simp only [World.size_alloc] at h5
    exact h5)
  have HA := hid (hid ((hb.below hB1).alloc (.cells #[] 5)))
  have HB1 := hid hB1
  have HLT := hid hb.lt
  have HLL := hid hb.len
  have HHH := hid (And.intro hh (And.intro ho (And.intro hk ko)))
  obtain ⟨i0, hi, hz0, hz1, hz2⟩ := info_parts info5
  have HALL := hid (show ∀ z ∈ l, z < 256 from by obtain ⟨_, _, _, h2, _⟩ := hb; exact h2)
  have HS1 := hid hs1
  clear hh ho hk ko hb hB1 hs1
  go_enter Tryz.func93, Tryz.ntmps93
  go_upto_region 1 with fail
  change Code.wp _ _ _ _ (((w.alloc (.cells (u32s K).toArray 179)).alloc (.cells (u32s H).toArray 180)).alloc (.cells (u8s (List.replicate 32 0)).toArray 23))
  rw [← hw1]
  clear hw1
  go_wp2_with (first
    | (refine wpList_cloneB (by rfl) (.tmp 13) (.tmp 14) (by rfl) w1.heap.size (by rfl) (heap_new _ _) a n c l (by rfl) HA.out.out hnil (by omega) ?_
       intro a5 c5 w5 hb5 hc5 hw5 hn5 hk5 hown5
       have HB5 := hid (show Below w1.heap.size w1 w5 from ((Below.refl _ _).alloc (Nat.le_refl _) _).trans (hk5.below (by simp) (Nat.le_refl _)))
       have HOW5 := hid hown5
       clear hb5 hc5 hw5 hn5 hk5 hown5)
    | (have h0 := HOW5.out
       refine wpList_append_lies _ (by rfl) (.tmp 15) (.tmp 16) 66 (by rfl) w1.heap.size 5 i0 (.int .u8 0) 1 1 Tryz.underlying66 hi hz0 hz1 hz2 rfl (by decide) (.slice a5 n c5) n (u8s l) (by rfl) (HOW5.out.alloc _) ⟨w5.heap.size, 0, none⟩ 1 1 [.int .u8 128] (by rfl) rfl (World.news_of_block (cs := #[.int .u8 128]) (heap_new _ _)) (fun u hu => by rw [List.mem_singleton.1 hu]; rfl) (by decide) (by unfold maxLen; omega) (by omega) (by have := HB5.out.size; simp; omega) _ rfl ?_
       intro g cap w6 hown6 hg6 hat6 hlt6
       have HB6 := hid (show Below w1.heap.size w1 w6 from (HB5.out.alloc HB5.out.size _).grown hg6 (by have := HB5.out.size; simp; omega) (fun k e => (HOW5.out.lt k e).1))
       have HO6 := hid (show w6.ownsRow w1.heap.size 5 1 (.slice (some ⟨g, 0, none⟩) (n + 1) cap) (n + 1) (u8s (l ++ pt n 1)) from by
         rw [show u8s (l ++ pt n 1) = u8s l ++ [.int .u8 128] from by simp [u8s, pt, padF]]
         exact hown6)
       clear hown6 hg6 hat6 hlt6))
  have hpb := padB_le n
  obtain ⟨P, hP⟩ : ∃ P, P = padB n := ⟨_, rfl⟩
  have hPm : P = 64 - (n + 8) % 64 := hP
  have HP := hid hP
  rw [← hP] at hpb
  have HPM := hid hPm
  clear hP hPm HA HOW5 HB5
  go_loopw [7] (fun mv wr => ∃ (q : Nat) (v : Value), 1 ≤ q ∧ q ≤ P ∧ v = mv ∧ Hid (wr.ownsRow w1.heap.size 5 1 v (n + q) (u8s (l ++ pt n q))) ∧ Hid (Below w1.heap.size w1 wr)) (fun mv _ => P + n - slLen mv)
  case atStart => exact ⟨1, _, by omega, by omega, rfl, HO6, HB6⟩
  case round =>
    clear HO6 HB6
    obtain ⟨q, v, hq1, hqP, rfl, HO, HB⟩ := hrel
    have hall : ∀ z ∈ l ++ pt n q, z < 256 := fun z hz => by
      rcases List.mem_append.1 hz with h | h
      · exact HALL.out z h
      · exact pt_lt _ _ z h
    obtain ⟨a9, c9, rfl, -, hc9, hbs9, hls9⟩ := bs_of_owns HO.out hall
    have HBS9 := hid hbs9
    have HLS9 := hid hls9
    clear hbs9 hls9
    obtain ⟨nq, hnq⟩ : ∃ nq, nq = n + q := ⟨_, rfl⟩
    rw [← hnq] at HO HBS9 hc9 ⊢
    by_cases hlast : q < P
    · have hrem : ¬ (nq % 64 = 56) := by have h := HPM.out; omega
      have hrem2 : ((nq : Int) % 64 != 56) = true := by simp only [bne_iff_ne, ne_eq]; omega
      have hrem3 : (Int.tmod (nq : Int) 64 != 56) = true := by rw [Int.tmod_eq_emod_of_nonneg (by omega)]; exact hrem2
      have HNQ := hid hnq
      have hz := padF_zero n q hq1 (by rw [← HP.out]; exact hlast)
      have HST := hid (show u8s (l ++ pt n (q + 1)) = u8s (l ++ pt n q) ++ [.int .u8 0] from by rw [pt_succ, hz, ← List.append_assoc]; simp [u8s])
      have hnq9 : nq ≤ 900000064 := by omega
      have hbsz := HB.out.size
      clear hall hnq hz
      go_wp2_with (refine wpList_append_lies _ (by rfl) (.tmp 22) (.tmp 23) 66 (by rfl) w1.heap.size 5 i0 (.int .u8 0) 1 1 Tryz.underlying66 hi hz0 hz1 hz2 rfl (by decide) (.slice a9 nq c9) nq (u8s (l ++ pt n q)) (by rfl) (HO.out.alloc _) ⟨wr.heap.size, 0, none⟩ 1 1 [.int .u8 0] (by rfl) rfl (World.news_of_block (cs := #[.int .u8 0]) (heap_new _ _)) (fun u hu => by rw [List.mem_singleton.1 hu]; rfl) (by decide) (by unfold maxLen; omega) (by omega) (by simp; omega) _ rfl ?_
                   intro g cap w6 hown6 hg6 hat6 hlt6)
      have HO6 := hid (show w6.ownsRow w1.heap.size 5 1 (.slice (some ⟨g, 0, none⟩) (nq + 1) cap) (n + (q + 1)) (u8s (l ++ pt n (q + 1))) from by
        rw [HST.out, show n + (q + 1) = nq + 1 from by rw [HNQ.out]; omega]
        exact hown6)
      have HB6 := hid (show Below w1.heap.size w1 w6 from (HB.out.alloc hbsz _).grown hg6 (by simp; omega) (fun k e => (HO.out.lt k e).1))
      clear hown6 hg6 hat6 hlt6
      exact ⟨⟨q + 1, _, by omega, by omega, rfl, HO6, HB6⟩, by have h := HNQ.out; simp [slLen]; omega⟩
    · as_aux_lemma =>
      obtain rfl : q = P := by omega
      have hrem : nq % 64 = 56 := by have h := HPM.out; omega
      have hrem2 : ((nq : Int) % 64 != 56) = false := by simp; omega
      have hrem3 : (Int.tmod (nq : Int) 64 != 56) = false := by rw [Int.tmod_eq_emod_of_nonneg (by omega)]; exact hrem2
      obtain ⟨n8, hn8⟩ : ∃ n8, n8 = n * 8 := ⟨_, rfl⟩
      have w8a : IntKind.u64.wrap (n : Int) = (n : Int) := by rw [IntKind.wrap_u64]; omega
      have w8b : IntKind.u64.wrap ((n : Int) * 8) = (n8 : Int) := by rw [IntKind.wrap_u64]; omega
      have w8c : (n : Int) * 8 = (n8 : Int) := by omega
      have HN8 := hid hn8
      have HO0 := hid (show wr.ownsRow w1.heap.size 5 1 (.slice a9 nq c9) (n + q + 0) (u8s (l ++ pt n (q + 0))) from by rw [Nat.add_zero, Nat.add_zero, ← hnq]; exact HO.out)
      have HNQ := hid hnq
      clear hall hn8 hnq HO
      obtain ⟨wo, rfl⟩ : ∃ x, x = wr := ⟨_, rfl⟩
      go_wp2
      go_loopw [7, 9] (fun mv iv wr => ∃ (j : Nat) (v : Value), j ≤ 8 ∧ iv = .int .i64 (7 - (j : Int)) ∧ v = mv ∧ Hid (wr.ownsRow w1.heap.size 5 1 v (n + q + j) (u8s (l ++ pt n (q + j)))) ∧ Hid (Below w1.heap.size w1 wr)) (fun _ iv _ => (intOf iv + 1).toNat)
      case atStart => exact ⟨0, _, by omega, by congr 1, rfl, HO0, HB⟩
      case round =>
        clear HO0 HB HBS9 HLS9
        obtain ⟨j, v, hj, rfl, rfl, HO, HB⟩ := hrel
        by_cases hj8 : j < 8
        · obtain ⟨k, hk⟩ : ∃ k, k = 7 - j := ⟨_, rfl⟩
          have e0 : 7 - (j : Int) = (k : Int) := by omega
          obtain ⟨y, hy⟩ : ∃ y, y = padF n 8 (q + j) := ⟨_, rfl⟩
          have hy2 : y = n8 / 2 ^ (8 * k) % 256 := by rw [hy, HP.out, padF_len n j hj8, HN8.out, show 56 - 8 * j = 8 * k from by omega]
          have HST := hid (show u8s (l ++ pt n (q + (j + 1))) = u8s (l ++ pt n (q + j)) ++ [.int .u8 (y : Int)] from by rw [← Nat.add_assoc, pt_succ, ← hy, ← List.append_assoc]; simp [u8s])
          rw [e0]
          obtain ⟨sh, hsh⟩ : ∃ sh, sh = 8 * k := ⟨_, rfl⟩
          have hs56 : sh ≤ 56 := by omega
          have t1 : IntKind.u64.wrap (k : Int) = (k : Int) := by rw [IntKind.wrap_u64]; omega
          have t2 : IntKind.u64.wrap (8 * (k : Int)) = (sh : Int) := by rw [IntKind.wrap_u64]; omega
          have t3 : 8 * (k : Int) = (sh : Int) := by omega
          have t4 : IntKind.u64.wrap (sh : Int) = (sh : Int) := by rw [IntKind.wrap_u64]; omega
          have t5 : (0 : Int) ≤ (sh : Int) := by omega
          have t6 : (sh : Int) ≤ 64 := by omega
          have t7 : IntKind.i64.wrap ((k : Int) - 1) = (k : Int) - 1 := by rw [IntKind.wrap_i64]; omega
          have t9 : IntKind.u8.wrap ((n8 : Int) / 2 ^ sh) = (y : Int) := by
            have e : (n8 : Int) / 2 ^ sh = ((n8 / 2 ^ sh : Nat) : Int) := by norm_cast
            rw [e, IntKind.wrap_u8, hy2, hsh]
            omega
          have hq0 : (0 : Int) ≤ (k : Int) := by omega
          have HKE := hid hk
          have hw0 := HB.out.size
          obtain ⟨nj, hnj⟩ : ∃ nj, nj = n + q + j := ⟨_, rfl⟩
          have hnj9 : nj ≤ 900000080 := by omega
          have HNJ := hid hnj
          rw [← hnj] at HO
          clear hy hy2 hsh hk hnj
          go_wp2_with (refine wpList_append_lies _ (by rfl) (.tmp 33) (.tmp 40) 66 (by rfl) w1.heap.size 5 i0 (.int .u8 0) 1 1 Tryz.underlying66 hi hz0 hz1 hz2 rfl (by decide) v nj (u8s (l ++ pt n (q + j))) (by rfl) (HO.out.alloc _) ⟨wr.heap.size, 0, none⟩ 1 1 [.int .u8 (y : Int)] (by rfl) rfl (World.news_of_block (cs := #[.int .u8 (y : Int)]) (heap_new _ _)) (fun u hu => by rw [List.mem_singleton.1 hu]; rfl) (by decide) (by unfold maxLen; omega) (by omega) (by simp; omega) _ rfl ?_
                       intro g cap w6 hown6 hg6 hat6 hlt6)
          have HO6 := hid (show w6.ownsRow w1.heap.size 5 1 (.slice (some ⟨g, 0, none⟩) (nj + 1) cap) (n + q + (j + 1)) (u8s (l ++ pt n (q + (j + 1)))) from by
            rw [HST.out, show n + q + (j + 1) = nj + 1 from by rw [HNJ.out]; omega]
            exact hown6)
          have HB6 := hid (show Below w1.heap.size w1 w6 from (HB.out.alloc hw0 _).grown hg6 (by simp; omega) (fun k e => (HO.out.lt k e).1))
          clear hown6 hg6 hat6 hlt6
          exact ⟨⟨j + 1, _, by omega, by have h := HKE.out; congr 1; omega, rfl, HO6, HB6⟩, by have h := HKE.out; simp [intOf]⟩
        · as_aux_lemma =>
          obtain rfl : j = 8 := by omega
          have hlt0 : ¬ ((0 : Int) ≤ 7 - ((8 : Nat) : Int)) := by omega
          have hlt1 : ¬ ((0 : Int) ≤ 7 - 8) := by omega
          have hpl : l ++ pt n (q + 8) = l ++ padL l.length := by rw [← HLL.out, HP.out, pt_all]
          have hall : ∀ z ∈ l ++ padL l.length, z < 256 := fun z hz => by
            rw [← hpl] at hz
            rcases List.mem_append.1 hz with h | h
            · exact HALL.out z h
            · exact pt_lt _ _ z h
          have hom := HO.out
          rw [hpl] at hom
          obtain ⟨am, cm, rfl, -, hcm, hbsm, hlsm⟩ := bs_of_owns hom hall
          have hnilm : am = none → cm = 0 := fun e => by
            rcases hom.2 with ⟨h, _⟩ | ⟨g, cap, cur, h, _⟩
            · simp only [Value.slice.injEq] at h; exact h.2.2
            · simp only [Value.slice.injEq] at h; rw [e] at h; cases h.1
          have HDG := hid (show dig K H l = digL (hsK (fun i => K.getD i 0) H (l ++ padL l.length) ((l ++ padL l.length).length / 64)) from rfl)
          have hPML : (l ++ padL l.length).length = n + q + 8 := by rw [← hpl, List.length_append, pt_length, ← HLL.out]; omega
          obtain ⟨PM, hPM⟩ : ∃ PM, PM = l ++ padL l.length := ⟨_, rfl⟩
          rw [← hPM] at hbsm HDG hPML hall
          obtain ⟨B, hB⟩ : ∃ B, B = (n + q + 8) / 64 := ⟨_, rfl⟩
          have hNB : n + q + 8 = 64 * B := by have h := HNQ.out; omega
          rw [hPML, ← hB] at HDG
          rw [hNB] at hbsm hcm hPML ⊢
          have HBSM := hid hbsm
          have HLSM := hid hlsm
          have HNIL := hid hnilm
          have HPML := hid hPML
          have hBs : B ≤ 20000000 := by omega
          have hs1 := HS1.out
          have HKW := hid (show OwnW wr w.heap.size K from (HB.out.block _ (by omega)).trans HK1.out)
          have HHW := hid (show OwnV wr (w.heap.size + 1) (hsK (fun i => K.getD i 0) H PM 0) from (HB.out.block _ (by omega)).trans HH1.out)
          have HRW := hid (show OwnD wr (w.heap.size + 1 + 1) (List.replicate 32 0) from (HB.out.block _ (by omega)).trans HR1.out)
          have HBW := hid (HB1.out.trans (HB.out.mono HB1.out.size))
          have hszw := HB.out.size
          have HSK := hid (hsK_ok (fun i => K.getD i 0) H PM HHH.out.1 HHH.out.2.1)
          have HCH := hid (show ∀ t j, j < 64 → ((PM.drop (64 * t)).take 64).getD j 0 = PM.getD (64 * t + j) 0 from fun t j hj => by
            rw [List.getD_eq_getElem?_getD, List.getElem?_take_of_lt hj, List.getElem?_drop, ← List.getD_eq_getElem?_getD])
          have h8n : ∀ L : List Nat, L.length = 8 → (u32s L).length = 8 := fun L h => by rw [u32s_length]; exact h
          have HIFH := hid (fun (L : List Nat) (h : L.length = 8) => (show (Tryz.prog.info? 180).map (·.size) = some (u32s L).length from by rw [h8n L h]; kernel_rfl))
          have HIFK := hid (show (Tryz.prog.info? 179).map (·.size) = some (u32s K).length from by rw [u32s_length, HHH.out.2.2.1]; kernel_rfl)
          clear hom hpl hPM hB hbsm hlsm hnilm hPML h8n HO HB HS1 HK1 HH1 HR1 HB1
          obtain ⟨wm, hwm⟩ : ∃ wm, wm = wr := ⟨_, rfl⟩
          have HKP := hid (show Kept (w.heap.size + 1) wm wr from by rw [hwm]; exact Kept.refl _ _)
          rw [← hwm] at HBSM HKW HRW HBW hszw HLSM
          clear hwm
          go_wp2
          go_loopw [10] (fun iv wr => ∃ t : Nat, t ≤ B ∧ iv = .int .i64 ((64 * t : Nat) : Int) ∧ Hid (OwnV wr (w.heap.size + 1) (hsK (fun i => K.getD i 0) H PM t)) ∧ Hid (Kept (w.heap.size + 1) wm wr)) (fun iv _ => 64 * B - (intOf iv).toNat)
          case atStart => exact ⟨0, by omega, rfl, HHW, HKP⟩
          case round =>
            clear HHW HKP
            obtain ⟨t, ht, rfl, HH, HKT⟩ := hrel
            by_cases htB : t < B
            · as_aux_lemma =>
              obtain ⟨st, hst⟩ : ∃ st, st = 64 * t := ⟨_, rfl⟩
              have hT : (st : Int) < ((64 * B : Nat) : Int) := by omega
              have x1 : IntKind.i64.wrap ((st : Int) + 64) = ((st + 64 : Nat) : Int) := by rw [IntKind.wrap_i64]; omega
              have x2 : (st : Int) + 64 = ((st + 64 : Nat) : Int) := by omega
              have x3 : IntKind.i64.wrap ((st + 64 : Nat) : Int) = ((st + 64 : Nat) : Int) := by rw [IntKind.wrap_i64]; omega
              rw [← hst]
              have hslo : ∀ ad, am = some ad → ad.block ≠ w.heap.size + 1 := fun ad e => by have := (HLSM.out ad e).1; omega
              have hbw := HBSM.out.kept HKT.out (off_to hslo)
              obtain ⟨a2, c2, hsl, hb2, hc2, hn2⟩ := bs_subF hbw hcm HNIL.out st (st + 64) (by omega) (by omega)
              rw [show st + 64 - st = 64 from by omega] at hsl hb2 hc2
              have hsl' : ∀ w', (Instr.sliceAt 66 (.slice am (64 * B) cm) (some (.int .i64 (st : Int))) (some (.int .i64 ((st + 64 : Nat) : Int))) none).run Tryz.prog w' = .ok (.slice a2 64 c2) w' := hsl
              obtain ⟨s2, hs2⟩ : ∃ s2, s2 = st + 64 := ⟨_, rfl⟩
              rw [← hs2] at hsl' x1 x2 x3
              have HB2 := hid hb2
              obtain ⟨hs, hhs⟩ : ∃ hs, hs = hsK (fun i => K.getD i 0) H PM t := ⟨_, rfl⟩
              have hok := HSK.out t
              rw [← hhs] at hok HH
              have HOK := hid hok
              have hnew : cmp (fun i => K.getD i 0) hs (fun j => ((PM.drop st).take 64).getD j 0) = hsK (fun i => K.getD i 0) H PM (t + 1) := by
                rw [hhs, hst]
                exact cmp_congr _ _ fun j hj => HCH.out t j hj
              have HNEW := hid hnew
              have hKT : OwnW wr w.heap.size K := (HKT.out.block _ (lt_of_heap HKW.out) (by omega)).trans HKW.out
              have HRG1 := hid (fun (p : Cls fun w' => Below wr.heap.size wr w') => (show p.w.rangeAt (w.heap.size + 1) 0 (u32s hs) from fun j v hj => by rw [Nat.zero_add, cell_of_heap ((p.h.block _ (lt_of_heap HH.out)).trans HH.out), List.getElem?_toArray]; exact hj))
              have HRG2 := hid (fun (p : Cls fun w' => Below wr.heap.size wr w') => (show p.w.rangeAt w.heap.size 0 (u32s K) from fun j v hj => by rw [Nat.zero_add, cell_of_heap ((p.h.block _ (lt_of_heap hKT)).trans hKT), List.getElem?_toArray]; exact hj))
              have HRND := hid (fun (p : Cls fun w' => Below wr.heap.size wr w') => round_any hs K ((PM.drop st).take 64) a2 c2 p.w HOK.out.1 HOK.out.2 HHH.out.2.2.1 HHH.out.2.2.2 (HB2.out.below p.h))
              rw [HNEW.out] at HRND
              obtain ⟨NR, hNR⟩ : ∃ NR, NR = hsK (fun i => K.getD i 0) H PM (t + 1) := ⟨_, rfl⟩
              have hok2 := HSK.out (t + 1)
              rw [← hNR] at HRND hok2
              have HNR := hid hNR
              have HOK2 := hid hok2
              have HST := hid hst
              have HS2 := hid hs2
              have HIK := HIFK
              have hneb : Nonempty (Cls fun w' => Below wr.heap.size wr w') := ⟨⟨wr, Below.refl _ _⟩⟩
              have HI1 := hid (HIFH.out hs HOK.out.1)
              have HI2 := hid (HIFH.out NR HOK2.out.1)
              have HI3 := hid (show (Tryz.prog.info? 180).map (·.size) = some (u32s NR).toArray.size from by rw [List.size_toArray]; exact HI2.out)
              have HSZ := hid (show (u32s hs).toArray.size = (u32s NR).toArray.size from by rw [List.size_toArray, List.size_toArray, u32s_length, u32s_length, HOK.out.1, HOK2.out.1])
              clear hst hs2 hhs hok hnew hNR hok2 hb2 hsl hbw hslo
              go_upto_region 12 with fail
              refine region_class_tail (G := fun w' => Below wr.heap.size wr w') 8 (by kernel_rfl) (by kernel_rfl) (bel_drewN (Below.refl _ _) 1) ?_
              simp only [List.take_succ_cons, List.take_zero, List.drop_succ_cons, List.drop_zero]
              refine wpQuiet_load_cls (by rfl) 180 (.tmp 5) (by rfl) (w.heap.size + 1) 0 (by rfl) (u32s hs) _ HRG1.out Tryz.underlying180 rfl HI1.out ?_
              intro C1 hC1
              refine wpQuiet_load_cls (by rfl) 179 (.tmp 4) (by rfl) w.heap.size 0 (by rfl) (u32s K) _ HRG2.out Tryz.underlying179 rfl HIK.out ?_
              intro C2 hC2
              have HRND2 := hid (fun (p : Cls fun w' => Below wr.heap.size wr w') => (show Calls Tryz.prog 127 #[.agg C1, .agg C2, .slice a2 64 c2] p.w (fun e w' => e = .returned (.agg (u32s NR).toArray) ∧ Below p.w.heap.size p.w w') from by rw [hC1, hC2]; exact HRND.out p))
              clear hC1 hC2
              go_simp
              obtain ⟨NA, hNA⟩ : ∃ NA, NA = (u32s NR).toArray := ⟨_, rfl⟩
              rw [← hNA] at HRND2 HI3 HSZ
              have HNA := hid hNA
              have HON := hid (show NA.all (·.oneCell') = true from by rw [hNA]; exact u32s_one NR)
              clear hNA
              repeat (go_big_quiet_step ((go_at_call 127; exact Calls.cls (HRND2.out _))))
              refine wpQuiet_nil ?_
              intro p
              have HHP := hid ((p.h.block _ (lt_of_heap HH.out)).trans HH.out)
              refine wpList_store_row (by rfl) 180 (.tmp 5) (.tmp 55) (by rfl) (w.heap.size + 1) _ NA _ (by rfl) (by rfl) HHP.out HI3.out HSZ.out HON.out ?_
              intro w8 hw8 hk8
              have HV8 := hid (show OwnV w8 (w.heap.size + 1) (hsK (fun i => K.getD i 0) H PM (t + 1)) from by rw [← HNR.out]; show w8.heap[_]? = _; rw [hw8, HNA.out])
              have HK8 := hid ((HKT.out.trans (Kept.of_below p.h)).trans hk8)
              clear hw8 hk8
              go_wp2
              exact ⟨⟨t + 1, by omega, by have h1 := HST.out; have h2 := HS2.out; go_num, HV8, HK8⟩, by have h1 := HST.out; have h2 := HS2.out; simp [intOf]; omega⟩
            · as_aux_lemma =>
              obtain rfl : t = B := by omega
              have hTT : ¬ (((64 * t : Nat) : Int) < ((64 * t : Nat) : Int)) := by omega
              obtain ⟨hs, hhs⟩ : ∃ hs, hs = hsK (fun i => K.getD i 0) H PM t := ⟨_, rfl⟩
              have hok := HSK.out t
              rw [← hhs] at hok HH HDG
              have HOK := hid hok
              have HRW2 := hid (show OwnD wr (w.heap.size + 1 + 1) (List.replicate 32 0) from (HKT.out.block _ (lt_of_heap HRW.out) (by omega)).trans HRW.out)
              have HBW2 := hid (HBW.out.trans (HKT.out.below HBW.out.size (by omega)))
              have hszr := HKT.out.size
              clear hok hhs HSK HCH HKT HKW HBSM HRW HBW HNIL HPML
              obtain ⟨wd, hwd⟩ : ∃ wd, wd = wr.alloc (.cells (u8s (List.replicate 32 0)).toArray 23) := ⟨_, rfl⟩
              obtain ⟨db, hdb⟩ : ∃ db, db = wr.heap.size := ⟨_, rfl⟩
              have HD := hid (show OwnD wd db (digTo hs 0) from by rw [digTo_zero, hwd, hdb]; exact heap_new _ _)
              have HHd := hid (show OwnV wd (w.heap.size + 1) hs from by rw [hwd]; exact heap_alloc HH.out _)
              have HRd := hid (show OwnD wd (w.heap.size + 1 + 1) (List.replicate 32 0) from by rw [hwd]; exact heap_alloc HRW2.out _)
              have HBd := hid (show Below w.heap.size w wd from by rw [hwd]; exact HBW2.out.alloc HBW2.out.size _)
              have hdbl : w.heap.size + 1 + 1 < db := by omega
              have HKD := hid (Kept.refl db wd)
              clear HH HRW2 HBW2
              go_upto_region 14 with fail
              change Code.wp _ _ _ _ (wr.alloc (.cells (u8s (List.replicate 32 0)).toArray 23))
              rw [← hwd, ← hdb]
              clear hwd hdb
              go_wp2
              go_loopw [12] (fun iv wr => ∃ i : Nat, i ≤ 32 ∧ iv = .int .i64 i ∧ Hid (OwnD wr db (digTo hs i)) ∧ Hid (Kept db wd wr)) (fun iv _ => 32 - (intOf iv).toNat)
              case atStart => exact ⟨0, by omega, rfl, HD, HKD⟩
              case round =>
                clear HD HKD
                obtain ⟨i, hi, rfl, HD, HKD⟩ := hrel
                by_cases hi32 : i < 32
                · have hI : (i : Int) < 32 := by omega
                  obtain ⟨q4, hq4⟩ : ∃ q4, q4 = i / 4 := ⟨_, rfl⟩
                  obtain ⟨r4, hr4⟩ : ∃ r4, r4 = i % 4 := ⟨_, rfl⟩
                  obtain ⟨sh, hsh⟩ : ∃ sh, sh = 24 - 8 * r4 := ⟨_, rfl⟩
                  have d1 : (i : Int) / 4 = (q4 : Int) := by omega
                  have d2 : (i : Int) % 4 = (r4 : Int) := by omega
                  have d3 : Int.tdiv (i : Int) 4 = (q4 : Int) := by rw [Int.tdiv_eq_ediv_of_nonneg (by omega)]; exact d1
                  have d4 : Int.tmod (i : Int) 4 = (r4 : Int) := by rw [Int.tmod_eq_emod_of_nonneg (by omega)]; exact d2
                  have e1 : IntKind.i64.wrap (q4 : Int) = (q4 : Int) := by rw [IntKind.wrap_i64]; omega
                  have e2 : IntKind.i64.wrap (r4 : Int) = (r4 : Int) := by rw [IntKind.wrap_i64]; omega
                  have e3 : IntKind.u64.wrap (r4 : Int) = (r4 : Int) := by rw [IntKind.wrap_u64]; omega
                  have e4 : IntKind.u64.wrap (8 * (r4 : Int)) = ((8 * r4 : Nat) : Int) := by rw [IntKind.wrap_u64]; omega
                  have e5 : 8 * (r4 : Int) = ((8 * r4 : Nat) : Int) := by omega
                  have e6 : IntKind.u64.wrap (24 - ((8 * r4 : Nat) : Int)) = (sh : Int) := by rw [IntKind.wrap_u64]; omega
                  have e7 : 24 - ((8 * r4 : Nat) : Int) = (sh : Int) := by omega
                  have e8 : IntKind.u64.wrap (sh : Int) = (sh : Int) := by rw [IntKind.wrap_u64]; omega
                  have e9 : (0 : Int) ≤ (sh : Int) := by omega
                  have e10 : (sh : Int) ≤ 32 := by omega
                  have q8 : q4 < 8 := by omega
                  have q9 : (q4 : Int) < 8 := by omega
                  have ch := (show OwnV wr (w.heap.size + 1) hs from (HKD.out.block _ (lt_of_heap HHd.out) (by omega)).trans HHd.out).cell q4 (by rw [HOK.out.1]; exact q8)
                  have hx := HOK.out.2 q4
                  obtain ⟨y, hy⟩ : ∃ y, y = digF hs i := ⟨_, rfl⟩
                  have hy2 : y = hs.getD q4 0 / 2 ^ sh % 256 := by rw [hy, digF, ← hq4, ← hr4, ← hsh]
                  have f1 := free_of_heap HD.out i
                  have c1 : wr.cell? ⟨db, i, none⟩ = some (.int .u8 (((digTo hs i).getD i 0 : Nat) : Int)) := by
                    rw [cell_of_heap HD.out]
                    simp [u8s, List.getElem?_eq_getElem (show i < (digTo hs i).length by rw [digTo_length]; exact hi32)]
                  have HST := hid (show OwnD (wr.setCell ⟨db, i, none⟩ (.int .u8 (y : Int))) db (digTo hs (i + 1)) from by
                    have h6 := heap_set HD.out i (.int .u8 (y : Int))
                    show _ = _
                    rw [h6, ← digTo_step hs i hi32, ← hy]
                    simp [u8s, List.map_set])
                  generalize hs.getD q4 0 = x at *
                  generalize (digTo hs i).getD i 0 = z at *
                  have t9 : IntKind.u8.wrap ((x : Int) / 2 ^ sh) = (y : Int) := by
                    have e : (x : Int) / 2 ^ sh = ((x / 2 ^ sh : Nat) : Int) := by norm_cast
                    rw [e, IntKind.wrap_u8, hy2]
                    omega
                  clear hq4 hr4 hsh hy hy2
                  generalize 8 * r4 = r8 at *
                  go_wp2
                  exact ⟨⟨i + 1, by omega, by go_num, HST, hid (HKD.out.setCell (p := ⟨db, i, none⟩) rfl _)⟩, by simp [intOf]; omega⟩
                · obtain rfl : i = 32 := by omega
                  have hI1 : ¬ (32 : Int) < 32 := by omega
                  have hI2 : ¬ ((32 : Nat) : Int) < 32 := by omega
                  obtain ⟨DL, hDL⟩ : ∃ DL, DL = digL hs := ⟨_, rfl⟩
                  have hdl := HD.out
                  rw [digTo_all, ← hDL] at hdl
                  have HDLO := hid hdl
                  have h32 : (u8s DL).length = 32 := by rw [hDL]; simp [u8s, digL]
                  have HDL := hid (show DL = dig K H l from by rw [hDL, HDG.out])
                  have HRR := hid (show OwnD wr (w.heap.size + 1 + 1) (List.replicate 32 0) from (HKD.out.block _ (lt_of_heap HRd.out) (by omega)).trans HRd.out)
                  have HBB := hid (HBd.out.trans (HKD.out.below HBd.out.size (by omega)))
                  have HRA := hid (show wr.rangeAt db 0 (u8s DL) from fun j v hj => by rw [Nat.zero_add, cell_of_heap hdl, List.getElem?_toArray]; exact hj)
                  have HIF := hid (show (Tryz.prog.info? 23).map (·.size) = some (u8s DL).length from by rw [h32]; kernel_rfl)
                  have HIF2 := hid (show (Tryz.prog.info? 23).map (·.size) = some (u8s DL).toArray.size from by rw [List.size_toArray]; exact HIF.out)
                  have HSZ := hid (show (u8s (List.replicate 32 0)).toArray.size = (u8s DL).toArray.size from by rw [List.size_toArray, List.size_toArray, h32]; rfl)
                  have HON := hid (show (u8s DL).toArray.all (·.oneCell') = true from all_oneCell_toArray (u8s_oneH DL))
                  clear hdl hDL h32 HD HRd HBd HKD
                  go_wp2_with (first
                    | (refine wpList_load_mid (by rfl) 23 (.tmp 11) (by rfl) db 0 (by rfl) (u8s DL) _ HRA.out Tryz.underlying23 rfl HIF.out ?_)
                    | (refine wpList_store_row (by rfl) 23 (.tmp 6) (.tmp 73) (by rfl) (w.heap.size + 1 + 1) _ (u8s DL).toArray _ (by rfl) (by rfl) HRR.out HIF2.out HSZ.out HON.out ?_
                       intro w9 hw9 hk9))
                  have hres : (loadVar 23 ⟨w.heap.size + 1 + 1, 0, none⟩).run Tryz.prog w9 = .ok (.agg (u8s DL).toArray) w9 := run_loadVar_row _ _ 23 23 _ (0, 0) _ hw9 Tryz.underlying23 rfl HIF2.out
                  refine bodyPost_ret (v := .agg (u8s DL).toArray) (results_at Tryz.results93 rfl hres) rfl ⟨by rw [HDL.out], ?_⟩
                  exact HBB.out.trans (hk9.below HBB.out.size (by omega))
end Go.Proofs.YtjgiiciniplbnaaGreatDoor

namespace Go.Proofs.YtjgiiciniplbnaaGreatDoor
open Go Go.RowKit
set_option linter.unusedVariables false

/-- the reference's listed variable holds what its text lays -/
structure Rnds (w : World) : Prop where
  rc : w.rangeAt 0 0 (u32s shaRound)
  lt : 0 < w.heap.size
theorem Rnds.below {w w' : World} (V : Rnds w) (hb : Below w.heap.size w w') : Rnds w' :=
  ⟨fun j v hj => (World.cell?_of_block (a := ⟨0, 0 + j, none⟩) (hb.block 0 V.lt)).trans (V.rc j v hj), Nat.lt_of_lt_of_le V.lt hb.size⟩
theorem getD_of_all {l : List Nat} (h : ∀ x ∈ l, x < 4294967296) (i : Nat) : l.getD i 0 < 4294967296 := by
  rw [List.getD_eq_getElem?_getD]
  by_cases hi : i < l.length
  · rw [List.getElem?_eq_getElem hi]; exact h _ (List.getElem_mem _)
  · rw [List.getElem?_eq_none (by omega)]; decide
theorem shaStart_row : (u32s shaStart).toArray = #[.int .u32 1779033703, .int .u32 3144134277, .int .u32 1013904242, .int .u32 2773480762, .int .u32 1359893119, .int .u32 2600822924, .int .u32 528734635, .int .u32 1541459225] := rfl

set_option maxRecDepth 100000 in
set_option maxHeartbeats 2000000 in
theorem rsum_any (l : List Nat) (a : Option Addr) (n c : Nat) (w : World) (V : Rnds w) (hb : Bs w (.slice a n c) l) (hnil : a = none → c = 0) (hn : n ≤ 900000000) :
    Calls Tryz.prog 62 #[.slice a n c] w fun e w' => e = .returned (.agg (u8s (dig shaRound shaStart l)).toArray) ∧ Below w.heap.size w w' := by
  obtain ⟨w1, hw1⟩ : ∃ q, q = w.alloc (.cells (u8s (List.replicate 32 0)).toArray 23) := ⟨_, rfl⟩
  have hB1 : Below w.heap.size w w1 := by rw [hw1]; exact (Below.refl _ _).alloc (Nat.le_refl _) _
  have HR := hid (show OwnD w1 w.heap.size (List.replicate 32 0) from by rw [hw1]; exact heap_new _ _)
  have HRA := hid ((V.below hB1).rc)
  have HF := hid (fold_any shaStart shaRound l a n c w1 (by rfl) (getD_of_all (by decide)) (by rfl) (getD_of_all (by decide)) (hb.below hB1) hnil hn)
  rw [shaStart_row] at HF
  have HB1 := hid hB1
  have HIFK := hid (show (Tryz.prog.info? 179).map (·.size) = some (u32s shaRound).length from by kernel_rfl)
  obtain ⟨DL, hDL⟩ : ∃ DL, DL = dig shaRound shaStart l := ⟨_, rfl⟩
  have HDL := hid hDL
  have h32 : (u8s DL).length = 32 := by rw [hDL]; simp [u8s, dig, digL]
  rw [← hDL] at HF
  have HIF2 := hid (show (Tryz.prog.info? 23).map (·.size) = some (u8s DL).toArray.size from by rw [List.size_toArray, h32]; kernel_rfl)
  have HSZ := hid (show (u8s (List.replicate 32 0)).toArray.size = (u8s DL).toArray.size from by rw [List.size_toArray, List.size_toArray, h32]; rfl)
  have HON := hid (show (u8s DL).toArray.all (·.oneCell') = true from all_oneCell_toArray (u8s_oneH DL))
  obtain ⟨KC, hKC⟩ : ∃ KC, KC = u32s shaRound := ⟨_, rfl⟩
  rw [← hKC] at HRA HF HIFK
  clear hB1 hDL h32 hb V hKC
  go_enter Tryz.func62, Tryz.ntmps62
  go_upto_region 1 with fail
  change Code.wp _ _ _ _ (w.alloc (.cells (u8s (List.replicate 32 0)).toArray 23))
  rw [← hw1]
  clear hw1
  go_wp2_with (refine wpList_load_mid (by rfl) 179 (.global 0) (by rfl) 0 0 (by rfl) KC _ HRA.out Tryz.underlying179 rfl HIFK.out ?_)
  refine HF.out.mono ?_
  rintro e w2 ⟨rfl, hb2⟩
  have HR2 := hid ((hb2.block _ (lt_of_heap HR.out)).trans HR.out)
  have HB2 := hid (HB1.out.trans (hb2.mono HB1.out.size))
  clear hb2
  go_wp2_with (refine wpList_store_row (by rfl) 23 (.tmp 2) (.tmp 6) (by rfl) w.heap.size _ (u8s DL).toArray _ (by rfl) (by rfl) HR2.out HIF2.out HSZ.out HON.out ?_
               intro w9 hw9 hk9)
  have hres : (loadVar 23 ⟨w.heap.size, 0, none⟩).run Tryz.prog w9 = .ok (.agg (u8s DL).toArray) w9 := run_loadVar_row _ _ 23 23 _ (0, 0) _ hw9 Tryz.underlying23 rfl HIF2.out
  refine bodyPost_ret (v := .agg (u8s DL).toArray) (results_at Tryz.results62 rfl hres) rfl ⟨by rw [HDL.out], ?_⟩
  exact HB2.out.trans (hk9.below HB2.out.size (Nat.le_refl _))

/-- the two bytes of an index -/
def hi8 (i : Int) : Nat := (i / 256 % 256).toNat
def lo8 (i : Int) : Nat := (i % 256).toNat
theorem hi8_lt (i : Int) : hi8 i < 256 := by unfold hi8; omega
theorem lo8_lt (i : Int) : lo8 i < 256 := by unfold lo8; omega

set_option maxRecDepth 100000 in
set_option maxHeartbeats 2000000 in
theorem ofp_any (i : Int) (l : List Nat) (a : Option Addr) (n c : Nat) (w : World) (V : Rnds w) (hb : Bs w (.slice a n c) l) (hnil : a = none → c = 0) (hn : n ≤ 800000000) :
    Calls Tryz.prog 106 #[.int .i64 i, .slice a n c] w fun e w' => e = .returned (.agg (u8s (dig shaRound shaStart ([hi8 i, lo8 i] ++ l))).toArray) ∧ Below w.heap.size w w' := by
  obtain ⟨w1, hw1⟩ : ∃ q, q = w.alloc (.cells (u8s (List.replicate 32 0)).toArray 23) := ⟨_, rfl⟩
  have hB1 : Below w.heap.size w w1 := by rw [hw1]; exact (Below.refl _ _).alloc (Nat.le_refl _) _
  have HR := hid (show OwnD w1 w.heap.size (List.replicate 32 0) from by rw [hw1]; exact heap_new _ _)
  have HB1 := hid hB1
  have HV1 := hid (V.below hB1)
  have HA := hid (hb.below hB1)
  have HALL := hid (show ∀ z ∈ [hi8 i, lo8 i] ++ l, z < 256 from fun z hz => by
    rcases List.mem_append.1 hz with h | h
    · simp only [List.mem_cons, List.not_mem_nil, or_false] at h
      rcases h with rfl | rfl
      · exact hi8_lt i
      · exact lo8_lt i
    · obtain ⟨_, _, _, h2, _⟩ := hb
      exact h2 z h)
  obtain ⟨DL, hDL⟩ : ∃ DL, DL = dig shaRound shaStart ([hi8 i, lo8 i] ++ l) := ⟨_, rfl⟩
  have HDL := hid hDL
  have h32 : (u8s DL).length = 32 := by rw [hDL]; simp [u8s, dig, digL]
  have HIF2 := hid (show (Tryz.prog.info? 23).map (·.size) = some (u8s DL).toArray.size from by rw [List.size_toArray, h32]; kernel_rfl)
  have HSZ := hid (show (u8s (List.replicate 32 0)).toArray.size = (u8s DL).toArray.size from by rw [List.size_toArray, List.size_toArray, h32]; rfl)
  have HON := hid (show (u8s DL).toArray.all (·.oneCell') = true from all_oneCell_toArray (u8s_oneH DL))
  have t1 : IntKind.u8.wrap (i / 256) = ((hi8 i : Nat) : Int) := by rw [IntKind.wrap_u8]; unfold hi8; omega
  have t2 : IntKind.u8.wrap i = ((lo8 i : Nat) : Int) := by rw [IntKind.wrap_u8]; unfold lo8; omega
  have HX := hid (hi8_lt i)
  have HY := hid (lo8_lt i)
  generalize hi8 i = x at *
  generalize lo8 i = y at *
  have HOW := hid (show (w1.alloc (.cells #[.int .u8 (x : Int), .int .u8 (y : Int)] 5)).ownsRow w1.heap.size 5 1 (.slice (some ⟨w1.heap.size, 0, none⟩) 2 2) 2 (u8s [x, y]) from
    ⟨rfl, .inr ⟨w1.heap.size, 2, #[.int .u8 (x : Int), .int .u8 (y : Int)], rfl, Nat.le_refl _, heap_new _ _, Nat.le_refl _, by unfold maxLen; omega, rfl, rfl⟩⟩)
  clear hB1 hDL h32 hb V
  go_enter Tryz.func106, Tryz.ntmps106
  go_upto_region 1 with fail
  change Code.wp _ _ _ _ (w.alloc (.cells (u8s (List.replicate 32 0)).toArray 23))
  rw [← hw1]
  clear hw1
  go_wp2_with (refine wpList_raw (by rfl) (.tmp 10) (.tmp 11) (by rfl) w1.heap.size 2 _ [x, y] (by rfl) HOW.out a n c l (by rfl) (HA.out.alloc _) hnil (by omega) (by simp) ?_
               intro v6 w6 hown6 hg6 hsr6
               have HB6 := hid (show Below w1.heap.size w1 w6 from ((Below.refl _ _).alloc (Nat.le_refl _) _).grown hg6 (by simp) (fun g hg => (HOW.out.lt g hg).1))
               obtain ⟨a6, c6, v6e, -, hc6, hbs6, hls6⟩ := bs_of_owns hown6 HALL.out
               subst v6e
               have HBS6 := hid hbs6
               have HNIL6 := hid (show a6 = none → c6 = 0 from fun e => by
                 rcases hown6.2 with ⟨h, _⟩ | ⟨g, cap, cur, h, _⟩
                 · simp only [Value.slice.injEq] at h; exact h.2.2
                 · simp only [Value.slice.injEq] at h; rw [e] at h; cases h.1)
               clear hown6 hg6 hsr6 hbs6 hls6)
  have HF := hid (rsum_any ([x, y] ++ l) a6 (2 + n) c6 w6 (HV1.out.below HB6.out) HBS6.out HNIL6.out (by omega))
  rw [← HDL.out] at HF
  refine HF.out.mono ?_
  rintro e w2 ⟨rfl, hb2⟩
  have HB2 := hid (HB6.out.trans (hb2.mono HB6.out.size))
  have HR2 := hid ((HB2.out.block _ (lt_of_heap HR.out)).trans HR.out)
  have HB22 := hid (HB1.out.trans (HB2.out.mono HB1.out.size))
  clear hb2
  go_wp2_with (refine wpList_store_row (by rfl) 23 (.tmp 4) (.tmp 13) (by rfl) w.heap.size _ (u8s DL).toArray _ (by rfl) (by rfl) HR2.out HIF2.out HSZ.out HON.out ?_
               intro w9 hw9 hk9)
  have hres : (loadVar 23 ⟨w.heap.size, 0, none⟩).run Tryz.prog w9 = .ok (.agg (u8s DL).toArray) w9 := run_loadVar_row _ _ 23 23 _ (0, 0) _ hw9 Tryz.underlying23 rfl HIF2.out
  refine bodyPost_ret (v := .agg (u8s DL).toArray) (results_at Tryz.results106 rfl hres) rfl ⟨by rw [HDL.out]; rfl, ?_⟩
  exact HB22.out.trans (hk9.below HB22.out.size (Nat.le_refl _))
end Go.Proofs.YtjgiiciniplbnaaGreatDoor
