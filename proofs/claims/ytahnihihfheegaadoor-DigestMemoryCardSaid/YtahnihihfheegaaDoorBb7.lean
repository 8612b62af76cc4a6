/-
  Writer: Raw. · bytes.Clone, Writer.Bytes, Writer.Len. · Parts of a slice of bytes. · Owned rows of bytes; regions by a class of worlds.
-/
import Derived.Test.YtahnihihfheegaaDoorBb6
import Derived.Maps.AppendAt
import Derived.Lib.LazyBuf
import Derived.Test.YtahnihihfheegaaDoorBb5
import Derived.Test.YtahnihihfheegaaDoorBb1
namespace Go.Proofs.YtahnihihfheegaaDoor
open Go Go.RowKit
set_option linter.unusedVariables false

theorem Bs.keptR {w w' : World} {wb n c : Nat} {a : Option Addr} {vr : Value} {l : List Nat} (h : Bs w (.slice a n c) l) (k : KeptR wb vr w w') (ho : ∀ ad, a = some ad → 0 < n → ad.block ≠ wb ∧ vr.ownBlock ≠ some ad.block) : Bs w' (.slice a n c) l := by
  have hn := h.len
  obtain ⟨a', c', h1, h2, h3⟩ := h
  simp only [Value.slice.injEq] at h1
  obtain ⟨rfl, h11, rfl⟩ := h1
  refine ⟨_, _, by rw [← hn], h2, fun hl => ?_⟩
  obtain ⟨b, o, ha, hc⟩ := h3 hl
  refine ⟨b, o, ha, fun i hi => ?_⟩
  have h4 := hc i hi
  obtain ⟨h5, h6⟩ := ho _ ha (by omega)
  rw [World.cell?_of_block (a := ⟨b, o + i, none⟩) (k.block b (World.block_lt_of_cell? _ _ h4) h5 h6)]
  exact h4
theorem wpList_raw {ops : Array Oper} {rest : List Oper} {o : Oper} {a : Act} {w : World} {Q : Exit → Act → World → Prop} (hgd : o.guard = none) (s x : Operand)
    (ho : o.op = .call { callee := .builtin .append, args := #[s, x], argTypes := #[22, 22] }) (base n0 : Nat) (v0 : Value) (l0 : List Nat) (hs : a.eval s = v0) (hown : w.ownsRow base 5 1 v0 n0 (u8s l0))
    (sa : Option Addr) (m c : Nat) (l : List Nat) (hx : a.eval x = .slice sa m c) (hb : Bs w (.slice sa m c) l) (hnil : sa = none → c = 0) (hm : n0 + m ≤ 461168601842) (hbase : base ≤ w.heap.size)
    (hK : ∀ v' w', w'.ownsRow base 5 1 v' (n0 + m) (u8s (l0 ++ l)) → w.grownBy w' v0.ownBlock → SameRow w v0 v' → wpList Tryd.prog ops Q rest (a.put o.dst v') w') :
    wpList Tryd.prog ops Q (o :: rest) a w := by
  obtain ⟨i0, hi, hz0, hz1, hz2⟩ := info_parts info5
  have hlen := hb.len
  have hap : u8s (l0 ++ l) = u8s l0 ++ u8s l := by simp [u8s]
  cases sa with
  | none =>
    obtain rfl := hnil rfl
    rcases hb.addr with ⟨h0, _⟩ | ⟨_, b, o, c', hv⟩
    · subst h0
      obtain rfl : m = 0 := hlen
      refine Go.wpList_append_own_none hgd s x _ ho base _ i0 1 Tryd.underlying22 hi _ n0 (u8s l0) hs hown hx ?_
      refine hK _ _ ?_ (World.grownBy.refl w _) (SameRow.refl _ _)
      rw [List.append_nil, Nat.add_zero]
      exact hown
    · simp at hv
  | some ad =>
    have hnews : ∀ j u, (u8s l)[j]? = some u → w.cell? (ad.add j) = some u := fun j u hj => by
      have hjl : j < l.length := by have := (List.getElem?_eq_some_iff.1 hj).1; simpa [u8s] using this
      rcases hb.addr with ⟨h0, _⟩ | ⟨_, b, o, c', hv⟩
      · rw [h0] at hjl; exact absurd hjl (Nat.not_lt_zero _)
      · simp only [Value.slice.injEq, Option.some.injEq] at hv
        obtain ⟨rfl, _, _⟩ := hv
        have hc := hb.cell j hjl
        have e : (⟨b, o, none⟩ : Addr).add j = ⟨b, o + j, none⟩ := by unfold Addr.add; split <;> simp_all
        rw [e, hc, ← hj]
        simp [u8s, List.getElem?_eq_getElem hjl]
    refine Go.wpList_append_own_at w hgd s x _ ho base 5 i0 (.int .u8 0) 1 1 Tryd.underlying22 hi hz0 hz1 hz2 rfl (by decide) _ n0 (u8s l0) hs hown ad m c (u8s l) hx (by simp [u8s]; omega) hnews (fun u hu => by
      unfold u8s at hu
      obtain ⟨y, _, rfl⟩ := List.mem_map.1 hu
      rfl) (by unfold maxLen; omega) (by omega) hbase ?_
    intro v' w' hown' hg _ hat
    rw [← hap] at hown'
    refine hK v' w' hown' hg (fun q hq => ?_)
    rcases hat with h | h
    · exact .inl (h ▸ hq)
    · exact .inr (by rw [h] at hq; exact Nat.le_of_eq (Option.some.inj hq))

set_option maxRecDepth 100000 in
set_option maxHeartbeats 2000000 in
theorem Raw_any (wb lim n c : Nat) (a : Option Addr) (v : Value) (l bs : List Nat) (f : Bool) (w : World) (W : WrAt w wb lim v l f) (hb : Bs w (.slice a n c) bs) (hnil : a = none → c = 0) (hn : n ≤ 100000000000) (ho : ∀ ad, a = some ad → 0 < n → ad.block ≠ wb ∧ v.ownBlock ≠ some ad.block) :
    Calls Tryd.prog 47 #[.pointer (some ⟨wb, 0, none⟩), .slice a n c] w fun e w' => e = .returned (.tuple #[]) ∧ Added wb lim v l f bs w w' := by
  have HF := hid (fits_any wb lim n v l f w W hn)
  have hlen := hb.len
  have HE := hid (show (f || decide (lim < l.length + n)) = true → wadd lim l f bs = (l, true) from fun h => by unfold wadd; rw [← hlen, if_pos h])
  have HE2 := hid (show (f || decide (lim < l.length + n)) = false → wadd lim l f bs = (l ++ bs, false) from fun h => by unfold wadd; rw [← hlen, if_neg (by rw [h]; decide)])
  have HFF := hid (show (f || decide (lim < l.length + n)) = false → l.length + n ≤ lim ∧ f = false from fun h => by
    rw [Bool.or_eq_false_iff] at h
    have h2 := h.2
    simp only [decide_eq_false_iff_not] at h2
    exact ⟨by omega, h.1⟩)
  have hcap := W.cap
  have HB := hid hb
  have HLEN := hid hlen
  have HO := hid ho
  have HNIL := hid hnil
  have HW := hid W
  clear hb hlen W ho hnil
  go_enter Tryd.func47, Tryd.ntmps47
  go_wp2_with fail
  refine HF.out.mono ?_
  clear HF
  rintro e w2 ⟨rfl, hW2, hK2⟩
  generalize hb : (f || decide (lim < l.length + n)) = b at *
  clear hb
  have HW2 := hid hW2
  have HK2 := hid hK2
  clear hW2 hK2
  cases b with
  | true =>
    have HE3 := hid (HE.out rfl)
    go_wp2
    go_end0
    refine ⟨rfl, v, ?_, HK2.out, SameRow.refl _ _⟩
    rw [HE3.out]
    exact HW2.out
  | false =>
    have hfit := (HFF.out rfl).1
    have HE3 := hid (HE2.out rfl)
    have hlt := HW2.out.lt_size
    have c1 : w2.cell? ⟨wb, 1, none⟩ = some v := by rw [cell_of_heap HW2.out.at_]; rfl
    have HP := hid (show ∀ w' : World, w'.heap[wb]? = w2.heap[wb]? → w'.cell? ⟨wb, 1, none⟩ = some v ∧ w'.frozen? ⟨wb, 1, none⟩ = false from fun w' h => ⟨by rw [World.cell?_of_block (a := ⟨wb, 1, none⟩) h]; exact c1, by rw [World.frozen?_of_block (a := ⟨wb, 1, none⟩) h]; exact free_of_heap HW2.out.at_ 1⟩)
    have HAR := hid (show some wb ≠ v.ownBlock from fun e => by have := (HW2.out.own.lt wb e.symm).1; omega)
    have HB2 := hid (HB.out.keptR HK2.out HO.out)
    have HFA := hid ((HFF.out rfl).2)
    have HSZ := hid (show l.length + n ≤ 461168601842 from by omega)
    have HWA := hid (show WrAt w2 wb lim v l false from HW2.out)
    have HFT := hid (show l.length + bs.length ≤ lim from by rw [← HLEN.out]; exact hfit)
    have hsz : wb + 1 ≤ w2.heap.size := hlt
    have HALL := hid (show ∀ z ∈ l ++ bs, z < 256 from fun z hz => by
      rcases List.mem_append.1 hz with h | h
      · exact HW2.out.lt z h
      · obtain ⟨_, _, _, h2, _⟩ := HB2.out
        exact h2 z h)
    clear HE HE2 HFF hfit
    go_wp2_with (refine wpList_raw (by rfl) (.tmp 12) (.tmp 13) (by rfl) (wb + 1) l.length v l (by rfl) HWA.out.own a n c bs (by rfl) HB2.out HNIL.out HSZ.out hsz ?_
                 intro v5 w5 hown5 hg5 hsr5
                 obtain ⟨a5, c5, e5, -, -, -, -⟩ := bs_of_owns hown5 HALL.out
                 subst e5
                 have hk5 := HP.out w5 (hg5.block wb hlt HAR.out)
                 have k51 := hk5.1
                 have k52 := hk5.2
                 clear hk5)
    have hG := HWA.out.grown (bs := bs) (by intro q hq; rfl) (Nat.le_refl _) (by rfl) (by rfl) (by rfl) (by rw [← HLEN.out]; exact hown5) hg5 (by obtain ⟨_, _, _, h, _⟩ := HB2.out; exact h) HFT.out hsr5
    go_end0
    refine ⟨rfl, _, ?_, HK2.out.trans (SameRow.refl _ _) hG.2, (SameRow.refl w v).trans HK2.out.size hsr5⟩
    rw [HE3.out]
    exact hG.1
end Go.Proofs.YtahnihihfheegaaDoor

namespace Go.Proofs.YtahnihihfheegaaDoor
open Go Go.RowKit
set_option linter.unusedVariables false

/-- a copy of bytes in memory of its own -/
def Copied (w : World) (n : Nat) (l : List Nat) (e : Value) (w' : World) : Prop := ∃ a c, e = .slice a n c ∧ n ≤ c ∧ Bs w' (.slice a n c) l ∧ (a = none → c = 0) ∧ (∀ ad, a = some ad → w.heap.size ≤ ad.block ∧ ad.block < w'.heap.size) ∧ Below w.heap.size w w'

set_option maxRecDepth 100000 in
set_option maxHeartbeats 2000000 in
theorem Clone_any (a : Option Addr) (n c : Nat) (l : List Nat) (w : World) (hb : Bs w (.slice a n c) l) (hnil : a = none → c = 0) (hn : n ≤ 100000000000) :
    Calls Tryd.prog 67 #[.slice a n c] w fun e w' => ∃ v, e = .returned v ∧ Copied w n l v w' := by
  cases a with
  | none =>
    obtain rfl := hnil rfl
    have h0 : l = [] := by
      rcases hb.addr with ⟨h0, _⟩ | ⟨_, b, o, c', hv⟩
      · exact h0
      · simp at hv
    subst h0
    have hn0 : n = 0 := hb.len
    subst hn0
    have HB := hid hb
    have hq : (binOp .eql 22 (.slice none 0 0) (.slice none 0 0)).run Tryd.prog w = .ok (.bool true) w := run_eql_slice_nil w _ _ none 0 0 Tryd.underlying22
    clear hb
    go_enter Tryd.func67, Tryd.ntmps67
    go_wp2
    go_ret
    exact ⟨_, rfl, none, 0, rfl, Nat.le_refl _, HB.out, fun _ => rfl, (fun ad h => by cases h), Below.refl _ _⟩
  | some ad =>
    have HB := hid (hb.alloc (.cells #[] 5))
    have HNW := hid (heap_new w (.cells #[] 5))
    have hq : (binOp .eql 22 (.slice (some ad) n c) (.slice none 0 0)).run Tryd.prog w = .ok (.bool false) w := run_eql_slice_nil w _ _ (some ad) n c Tryd.underlying22
    clear hb hnil
    go_enter Tryd.func67, Tryd.ntmps67
    go_wp2_with (refine wpList_clone (by rfl) (.tmp 5) (.tmp 6) (by rfl) w.heap.size (by rfl) HNW.out (some ad) n c l (by rfl) HB.out (fun h => by cases h) (by omega) ?_
                 intro a5 c5 w5 hb5 hc5 hw5 hn5 hk5)
    go_ret
    refine ⟨_, rfl, a5, c5, rfl, hc5, hb5, hn5, fun q hq => hw5 q hq, ?_⟩
    exact (((Below.refl w.heap.size w).alloc (Nat.le_refl _) (.cells #[] 5))).trans (hk5.below (by simp) (Nat.le_refl _))

/-- what Bytes answers -/
def BytesRes (f : Bool) (n : Nat) (l : List Nat) (w : World) (e : Ending) (w' : World) : Prop :=
  (f = true → e = .returned (.tuple #[.slice none 0 0, .int .i64 3]) ∧ w = w') ∧ (f = false → ∃ u, e = .returned (.tuple #[u, .int .i64 0]) ∧ Copied w n l u w')

set_option maxRecDepth 100000 in
set_option maxHeartbeats 2000000 in
theorem Bytes_any (wb lim : Nat) (v : Value) (l : List Nat) (f : Bool) (w : World) (W : WrAt w wb lim v l f) :
    Calls Tryd.prog 48 #[.pointer (some ⟨wb, 0, none⟩)] w fun e w' => BytesRes f l.length l w e w' := by
  have c2 : w.cell? ⟨wb, 2, none⟩ = some (.bool f) := by rw [cell_of_heap W.at_]; rfl
  have c1 : w.cell? ⟨wb, 1, none⟩ = some v := by rw [cell_of_heap W.at_]; rfl
  obtain ⟨a, c, rfl, hc, hb⟩ := W.sl
  have hnil : a = none → c = 0 := fun e => by
    rcases W.own.2 with ⟨h, _⟩ | ⟨g, cap, cur, h, _⟩
    · simp only [Value.slice.injEq] at h; exact h.2.2
    · simp only [Value.slice.injEq] at h; rw [e] at h; cases h.1
  have HC := hid (Clone_any a l.length c l w hb hnil (Nat.le_trans W.fit W.cap))
  clear hb hnil hc W
  cases f with
  | true =>
    go_enter Tryd.func48, Tryd.ntmps48
    go_wp2
    go_ret2
    exact ⟨fun _ => ⟨rfl, rfl⟩, fun h => by cases h⟩
  | false =>
    generalize hm : l.length = m at *
    have HM := hid (fun (_ : Unit) => hm)
    clear hm
    go_enter Tryd.func48, Tryd.ntmps48
    go_wp2_with fail
    refine HC.out.mono ?_
    rintro e w2 ⟨u, rfl, h⟩
    go_wp2
    go_ret2
    exact ⟨fun h => (by cases h), fun _ => ⟨u, rfl, h⟩⟩
end Go.Proofs.YtahnihihfheegaaDoor

namespace Go.Proofs.YtahnihihfheegaaDoor
open Go Go.RowKit
set_option linter.unusedVariables false

theorem off_of {a : Option Addr} {n c rb : Nat} (h : Off rb (.slice a n c)) : ∀ ad, a = some ad → ad.block ≠ rb := fun ad e => by
  subst e
  exact h
theorem off_to {a : Option Addr} {n c rb : Nat} (h : ∀ ad, a = some ad → ad.block ≠ rb) : Off rb (.slice a n c) := by
  cases a with
  | none => trivial
  | some ad => exact h ad rfl
theorem add_block (ad : Addr) (k : Nat) : (ad.add k).block = ad.block := by
  unfold Addr.add
  split <;> rfl
/-- what follows the first k bytes, of no bytes too -/
theorem bs_from0 {w : World} {a : Option Addr} {n c : Nat} {l : List Nat} (h : Bs w (.slice a n c) l) (hc : n ≤ c) (hnil : a = none → c = 0) (k : Nat) (hk : k ≤ n) :
    ∃ a' c', (∀ w', (Instr.sliceAt 22 (.slice a n c) (some (.int .i64 (k : Int))) none none).run Tryd.prog w' = .ok (.slice a' (n - k) c') w') ∧ Bs w (.slice a' (n - k) c') (l.drop k) ∧ n - k ≤ c' ∧ (a' = none → c' = 0) ∧ (∀ fb, Off fb (.slice a n c) → Off fb (.slice a' (n - k) c')) := by
  by_cases h1 : 1 ≤ n
  · exact bs_from h h1 hc k hk
  · obtain rfl : n = 0 := by omega
    obtain rfl : k = 0 := by omega
    have hl : l = [] := List.length_eq_zero_iff.1 h.len.symm
    subst hl
    cases a with
    | none =>
      obtain rfl := hnil rfl
      exact ⟨none, 0, fun w' => by simp [go_sem, Tryd.underlying22], bs_nilH _ _ _, Nat.le_refl _, fun _ => rfl, fun _ _ => trivial⟩
    | some ad =>
      by_cases e : c = 0
      · subst e
        exact ⟨some ad, 0, fun w' => by simp [go_sem, Tryd.underlying22], bs_nilH _ _ _, Nat.le_refl _, (fun h => by cases h), fun fb hf => hf⟩
      · exact ⟨some (ad.add 0), c, fun w' => by simp [go_sem, Tryd.underlying22, e], bs_nilH _ _ _, Nat.zero_le _, (fun h => by cases h), fun fb hf => (by show (ad.add 0).block ≠ fb; rw [add_block]; exact hf)⟩
/-- the first k bytes -/
theorem bs_upto {w : World} {a : Option Addr} {n c : Nat} {l : List Nat} (h : Bs w (.slice a n c) l) (k : Nat) (hk : k ≤ n) : Bs w (.slice a k c) (l.take k) := by
  have hlen := h.len
  have hlt := h.lt
  obtain ⟨a', c', h1, h2, h3⟩ := h
  simp only [Value.slice.injEq] at h1
  obtain ⟨rfl, h11, rfl⟩ := h1
  refine ⟨_, _, by rw [List.length_take, Nat.min_eq_left (by omega)], fun x hx => h2 x (List.mem_of_mem_take hx), fun hne => ?_⟩
  have hne2 : l ≠ [] := fun e => hne (by rw [e]; simp)
  obtain ⟨b, o, ha, hcell⟩ := h3 hne2
  refine ⟨b, o, ha, fun i hi => ?_⟩
  rw [List.length_take] at hi
  rw [hcell i (by omega), List.getD_eq_getElem?_getD, List.getD_eq_getElem?_getD, List.getElem?_take, if_pos (by omega)]
theorem or_add (a b : Nat) (h : b < 256) : a * 256 ||| b = a * 256 + b := by
  have h1 := Nat.shiftLeft_add_eq_or_of_lt (i := 8) (b := b) (by omega) a
  rw [Nat.shiftLeft_eq] at h1
  exact h1.symm
end Go.Proofs.YtahnihihfheegaaDoor

namespace Go.Proofs.YtahnihihfheegaaDoor
open Go Go.RowKit
set_option linter.unusedVariables false

theorem owns_nilD (w : World) (base : Nat) : w.ownsRow base 5 1 (.slice none 0 0) 0 (u8s []) := ⟨rfl, .inl ⟨rfl, rfl⟩⟩
theorem owns_baseD {w : World} {b0 b1 m : Nat} {v : Value} {xs : List Value} (h : w.ownsRow b1 5 1 v m xs) (hb : b0 ≤ b1) : w.ownsRow b0 5 1 v m xs := by
  refine ⟨h.1, ?_⟩
  rcases h.2 with h2 | ⟨q, cap, cur, h1, h2, h3, h4⟩
  · exact .inl h2
  · exact .inr ⟨q, cap, cur, h1, Nat.le_trans hb h2, h3, h4⟩
theorem owns_belowR {w w' : World} {base m : Nat} {v : Value} {xs : List Value} (h : w.ownsRow base 5 1 v m xs) (k : Below w.heap.size w w') : w'.ownsRow base 5 1 v m xs := by
  refine ⟨h.1, ?_⟩
  rcases h.2 with h2 | ⟨q, cap, cur, h1, h2, h3, h4⟩
  · exact .inl h2
  · exact .inr ⟨q, cap, cur, h1, h2, (k.block q (lt_of_heap h3)).trans h3, h4⟩
theorem owns_keptR {w w' : World} {base g m : Nat} {v : Value} {xs : List Value} (h : w.ownsRow base 5 1 v m xs) (k : Kept g w w') (hg : g < base) : w'.ownsRow base 5 1 v m xs := by
  refine ⟨h.1, ?_⟩
  rcases h.2 with h2 | ⟨q, cap, cur, h1, h2, h3, h4⟩
  · exact .inl h2
  · exact .inr ⟨q, cap, cur, h1, h2, (k.block q (lt_of_heap h3) (by omega)).trans h3, h4⟩

/-- the worlds of the class G -/
structure Cls (G : World → Prop) where
  w : World
  h : G w
theorem wp_region_class_lit {P : Program} {id : Nat} {Q : Exit → Act → World → Prop} {a : Act} {w : World} {l : List Oper} {G : World → Prop} (hm : P.follows .mixedOrders = true) (hB : Region.lexB .any l.toArray = true) (hC : G { w with drawn := w.drawn + 1 })
    (h : wpQuiet P l.toArray (fun w' => ∃ p : Cls G, w' = p.w) (fun a' => ∀ w', (∃ p : Cls G, w' = p.w) → Q .normal a' w') l a) : (Code.region id l.toArray true).wp P Q a w :=
  wp_region_quiet (C := fun w' => ∃ p : Cls G, w' = p.w) hm hB ⟨⟨_, hC⟩, rfl⟩ (by simpa using h)
/-- a callee that makes memory only, met in a world behind w1 -/
theorem Calls.cls {P : Program} {f : FuncId} {args : Array Value} {w1 : World} {p : Cls fun w' => Below w1.heap.size w1 w'} {v : Value}
    (h : Calls P f args p.w fun e w' => e = .returned v ∧ Below p.w.heap.size p.w w') : Calls P f args p.w fun e w'' => e = .returned v ∧ ∃ q : Cls (fun w' => Below w1.heap.size w1 w'), w'' = q.w :=
  h.mono fun _ w' ⟨he, hb⟩ => ⟨he, ⟨w', p.h.trans (hb.mono p.h.size)⟩, rfl⟩
/-- .. and one that leaves the world alone -/
theorem Calls.cls_same {P : Program} {f : FuncId} {args : Array Value} {G : World → Prop} {p : Cls G} {v : Value}
    (h : Calls P f args p.w fun e w' => e = .returned v ∧ w' = p.w) : Calls P f args p.w fun e w'' => e = .returned v ∧ ∃ q : Cls G, w'' = q.w :=
  h.mono fun _ _ ⟨he, hm⟩ => ⟨he, p, hm⟩
/-- n operations of the class in any order, then the rest one by one -/
theorem region_class_tail {P : Program} {id : Nat} {Q : Exit → Act → World → Prop} {a : Act} {w : World} {l : List Oper} {G : World → Prop} (n : Nat) (hm : P.follows .mixedOrders = true) (hB : Region.lexTailB .any l.toArray n = true) (hC : G { w with drawn := w.drawn + 1 })
    (h : wpQuiet P l.toArray (fun w' => ∃ p : Cls G, w' = p.w) (fun b => ∀ p : Cls G, wpList P l.toArray Q (l.drop n) b p.w) (l.take n) a) : (Code.region id l.toArray true).wp P Q a w := by
  simp only [Region.lexTailB, Bool.and_eq_true, decide_eq_true_eq] at hB
  obtain ⟨⟨⟨⟨hsel, hn⟩, hs⟩, hc⟩, hlex⟩ := hB
  have hn' : n < l.length := by simpa using hn
  have htl : (l.take n).length = n := by rw [List.length_take]; omega
  have hdl : (l.drop n).length = l.toArray.size - n := by simp
  have inv : HeadInv .any l.toArray n (Array.replicate l.toArray.size false) :=
    ⟨by simp, fun j _ _ hl => (by rw [getD_replicate_false] at hl; cases hl), fun t _ ht => getD_in (by simpa using ht) (getD_replicate_false _ _)⟩
  have hlex' : Region.lexHead .any l.toArray (l.toArray.size - n) (l.take n).length 0 (Array.replicate l.toArray.size false) = true := by rw [htl]; exact hlex
  have H := Quiets.lex hsel hs hc hn (l.take n) 0 _ a (fun j hj => by rw [htl] at hj; simp [hj]) (by omega) inv hlex' h
  refine wp_region_any hm ?_
  have hrun := Quiets.runs (Q := Q) (g := l.toArray.size - n) (fun done b w' hw' hL => by
    obtain ⟨p, rfl⟩ := hw'
    have := wpAny_of_seq (md := .any) (Q' := Q) (l.drop n) n done b p.w (fun j => by simp [List.getElem?_drop]) (by rw [hdl]; exact hL.1) (hL.2 p)
    rwa [hdl] at this) _ _ a _ ⟨⟨_, hC⟩, rfl⟩ H
  rw [htl, show n + (l.toArray.size - n) = l.toArray.size by omega] at hrun
  exact hrun
end Go.Proofs.YtahnihihfheegaaDoor
