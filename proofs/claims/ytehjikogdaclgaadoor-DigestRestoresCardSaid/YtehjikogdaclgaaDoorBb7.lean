/-
  Writer: number. · Writer: U8, U16, U32, U64, Raw. · Writer: Raw. · bytes.Clone, Writer.Bytes, Writer.Len. · EncodeManifest. · PieceDigest. · Memory of Make: digests in a row, stored one by one; ranges of cells.
-/
import Derived.Test.YtehjikogdaclgaaDoorBb6
import Derived.Deep.RegionLaw
import Derived.Maps.AppendAt
import Derived.Lib.LazyBuf
import Derived.Test.YtehjikogdaclgaaDoorBb5
import Derived.Deep.RegionHeld3
import Derived.Deep.RegionWith
namespace Go.Proofs.YtehjikogdaclgaaDoor
open Go Go.RowKit
set_option linter.unusedVariables false

/-- the lowest n bytes of x, the highest of them first -/
def beB (x n i : Nat) : Nat := x / 2 ^ (8 * (n - 1 - i)) % 256
def beL (x n : Nat) : List Nat := (List.range n).map (beB x n)
theorem beL_length (x n : Nat) : (beL x n).length = n := by simp [beL]
theorem beL_lt (x n : Nat) : ∀ y ∈ beL x n, y < 256 := fun y h => by
  obtain ⟨i, _, rfl⟩ := List.mem_map.1 h
  exact Nat.mod_lt _ (by decide)
def beTo (x n i : Nat) : List Nat := (List.range i).map (beB x n)
theorem beTo_succ (x n i : Nat) : beTo x n (i + 1) = beTo x n i ++ [beB x n i] := by simp [beTo, List.range_succ]
theorem beTo_length (x n i : Nat) : (beTo x n i).length = i := by simp [beTo]
/-- the data and whether it failed, behind an attempt to add bytes -/
def wadd (lim : Nat) (l : List Nat) (f : Bool) (bs : List Nat) : List Nat × Bool := if (f || decide (lim < l.length + bs.length)) = true then (l, true) else (l ++ bs, false)

theorem KeptR.drewN {wb : Nat} {v : Value} {w w' : World} (h : KeptR wb v w w') (n : Nat) : KeptR wb v w (w'.drewN n) := ⟨h.os, h.tape, h.output, h.size, h.block⟩
/-- what an append to the row and the store of its slice leave -/
theorem WrAt.grown {w w1 w2 : World} {wb lim : Nat} {v v' : Value} {l bs : List Nat} (W : WrAt w wb lim v l false) (hw1 : ∀ k, k < w.heap.size → w1.heap[k]? = w.heap[k]?) (hs1 : w.heap.size ≤ w1.heap.size) (ho : w1.os = w.os) (ht : w1.tape = w.tape) (hu : w1.output = w.output)
    (hown : w2.ownsRow (wb + 1) 5 1 v' (l.length + bs.length) (u8s (l ++ bs))) (hg : w1.grownBy w2 v.ownBlock) (hb : ∀ n ∈ bs, n < 256) (hf : l.length + bs.length ≤ lim) (hsr : SameRow w v v') :
    WrAt (w2.setCell ⟨wb, 1, none⟩ v') wb lim v' (l ++ bs) false ∧ KeptR wb v w (w2.setCell ⟨wb, 1, none⟩ v') := by
  have hlt := W.lt_size
  have hne : some wb ≠ v.ownBlock := fun e => by have := (W.own.lt wb e.symm).1; omega
  have h1 : w2.heap[wb]? = _ := (hg.block wb (by omega) hne).trans ((hw1 wb hlt).trans W.at_)
  refine ⟨⟨?_, ?_, ?_, by simpa using hf, W.cap⟩, ?_⟩
  · have h := heap_setCell_same w2 wb 1 _ _ v' h1
    simpa using h
  · rw [List.length_append]
    refine ⟨hown.1, ?_⟩
    rcases hown.2 with h | ⟨g, cap, cur, h1, h2, h3, h4⟩
    · exact .inl h
    · exact .inr ⟨g, cap, cur, h1, h2, by rw [heap_setCell_other w2 _ g _ (by show g ≠ wb; omega)]; exact h3, h4⟩
  · intro n hn
    rcases List.mem_append.1 hn with h | h
    · exact W.lt n h
    · exact hb n h
  · exact KeptR.setCell ⟨hg.os.trans ho, hg.tape.trans ht, hg.output.trans hu, Nat.le_trans hs1 hg.size, fun k hk hkb hkv => (hg.block k (by omega) (fun e => hkv e.symm)).trans (hw1 k hk)⟩ 1 v'

set_option maxRecDepth 100000 in
set_option maxHeartbeats 4000000 in
theorem number_any (wb lim x n : Nat) (v : Value) (l : List Nat) (f : Bool) (w : World) (W : WrAt w wb lim v l f) (hn : n ≤ 8) (hx : x < 18446744073709551616) :
    Calls Tryd.prog 65 #[.pointer (some ⟨wb, 0, none⟩), .int .u64 (x : Int), .int .i64 (n : Int)] w fun e w' => e = .returned (.tuple #[]) ∧
      ∃ v', WrAt w' wb lim v' (wadd lim l f (beL x n)).1 (wadd lim l f (beL x n)).2 ∧ KeptR wb v w w' ∧ SameRow w v v' := by
  have HF := hid (fits_any wb lim n v l f w W (by omega))
  have HE := hid (show (f || decide (lim < l.length + n)) = true → wadd lim l f (beL x n) = (l, true) from fun h => by unfold wadd; rw [beL_length, if_pos h])
  have HE2 := hid (show (f || decide (lim < l.length + n)) = false → wadd lim l f (beL x n) = (l ++ beL x n, false) from fun h => by unfold wadd; rw [beL_length, if_neg (by rw [h]; decide)])
  have HFF := hid (show (f || decide (lim < l.length + n)) = false → l.length + n ≤ lim from fun h => by
    rw [Bool.or_eq_false_iff] at h
    have h2 := h.2
    simp only [decide_eq_false_iff_not] at h2
    omega)
  have hcap := W.cap
  have hlen0 := W.fit
  clear W
  go_enter Tryd.func65, Tryd.ntmps65
  go_wp2_with fail
  refine HF.out.mono ?_
  clear HF
  rintro e w2 ⟨rfl, hW2, hK2⟩
  generalize hb : (f || decide (lim < l.length + n)) = b at *
  clear hb
  have HW2 := hid hW2
  have HK2 := hid hK2
  clear hW2 hK2
  cases b with
  | true =>
    have h1 := HE.out rfl
    have HE3 := hid h1
    clear h1
    go_wp2
    refine bodyPost_ret (results_none rfl _ _ _) rfl ?_
    refine ⟨rfl, v, ?_, HK2.out, SameRow.refl _ _⟩
    rw [HE3.out]
    exact HW2.out
  | false =>
    have h1 := HE2.out rfl
    have hfit := HFF.out rfl
    have HE3 := hid h1
    clear h1 HE HE2 HFF
    go_wp2
    go_loopw [12] (fun iv wr => ∃ (i : Nat) (v' : Value), i ≤ n ∧ iv = .int .i64 i ∧ Hid (WrAt wr wb lim v' (l ++ beTo x n i) false) ∧ Hid (KeptR wb v w wr) ∧ Hid (SameRow w v v')) (fun iv _ => n - (intOf iv).toNat)
    case atStart => exact ⟨0, v, by omega, rfl, hid (by simpa [beTo] using HW2.out), HK2, hid (SameRow.refl _ _)⟩
    case round =>
      clear HW2 HK2
      obtain ⟨i, v', hi, rfl, HW, HK, HS⟩ := hrel
      by_cases hin : i < n
      · have hI : (i : Int) < (n : Int) := by omega
        obtain ⟨sh, hsh⟩ : ∃ sh, sh = 8 * (n - 1 - i) := ⟨_, rfl⟩
        have hs56 : sh ≤ 56 := by omega
        have t1 : IntKind.i64.wrap ((n : Int) - 1) = (n : Int) - 1 := by rw [IntKind.wrap_i64]; omega
        have t2 : IntKind.i64.wrap ((n : Int) - 1 - (i : Int)) = (n : Int) - 1 - (i : Int) := by rw [IntKind.wrap_i64]; omega
        have t3 : IntKind.i64.wrap (8 * ((n : Int) - 1 - (i : Int))) = (sh : Int) := by rw [IntKind.wrap_i64]; omega
        have t4 : 8 * ((n : Int) - 1 - (i : Int)) = (sh : Int) := by omega
        have t5 : (0 : Int) ≤ (sh : Int) := by omega
        have t6 : (sh : Int) ≤ 64 := by omega
        obtain ⟨y, hy⟩ : ∃ y, y = beB x n i := ⟨_, rfl⟩
        have hyl : y < 256 := by rw [hy]; exact Nat.mod_lt _ (by decide)
        have t10 : IntKind.i64.wrap (sh : Int) = (sh : Int) := by rw [IntKind.wrap_i64]; omega
        have hy2 : y = x / 2 ^ sh % 256 := by rw [hy, beB, ← hsh]
        have t9 : IntKind.u8.wrap ((x : Int) / 2 ^ sh) = (y : Int) := by
          have e : (x : Int) / 2 ^ sh = ((x / 2 ^ sh : Nat) : Int) := by norm_cast
          rw [e, IntKind.wrap_u8, hy2]
          omega
        obtain ⟨a, c, rfl, hc, hbs⟩ := HW.out.sl
        have hlt := HW.out.lt_size
        have c1 : wr.cell? ⟨wb, 1, none⟩ = some (.slice a (l ++ beTo x n i).length c) := by rw [cell_of_heap HW.out.at_]; rfl
        have f1 : wr.frozen? ⟨wb, 1, none⟩ = false := free_of_heap HW.out.at_ 1
        have hml : (l ++ beTo x n i).length = l.length + i := by rw [List.length_append, beTo_length]
        have HML := hid hml
        have HSU := hid (fun (_ : Unit) => (show (l ++ beTo x n i) ++ [y] = l ++ beTo x n (i + 1) from by rw [beTo_succ, hy, List.append_assoc]))
        have HOW := hid HW.out.own
        have HP := hid (show ∀ w' : World, w'.heap[wb]? = wr.heap[wb]? → w'.cell? ⟨wb, 1, none⟩ = some (.slice a (l ++ beTo x n i).length c) ∧ w'.frozen? ⟨wb, 1, none⟩ = false from fun w' h => ⟨by rw [World.cell?_of_block (a := ⟨wb, 1, none⟩) h]; exact c1, by rw [World.frozen?_of_block (a := ⟨wb, 1, none⟩) h]; exact f1⟩)
        have hy1 : ∀ z ∈ [y], z < 256 := fun z hz => by rw [List.mem_singleton.1 hz]; exact hyl
        have HY := hid hy1
        have HAR := hid (show some wb ≠ (Value.slice a (l ++ beTo x n i).length c).ownBlock from fun e => by have := (HW.out.own.lt wb e.symm).1; omega)
        have HFT := hid (show (l ++ beTo x n i).length + [y].length ≤ lim from by rw [hml]; show l.length + i + 1 ≤ lim; omega)
        have HNN := hid (show (l ++ beTo x n i).length + 1 ≤ 461168601842 from by rw [hml]; omega)
        clear hy hml hsh hbs hy1 hc hy2
        generalize l ++ beTo x n i = m at *
        generalize hk : m.length = k at *
        have HKK := hid hk
        clear hk
        go_wp2
        go_region_law
          (first
            | (refine step_own_lies (by rfl) (.tmp 19) (.tmp 28) (by rfl) (wb + 1) k (.slice a k c) m (by rfl) (by exact HOW.out.alloc _) wr.heap.size 0 1 1 [y] (by rfl) (Own.bs (l := [y]) (by exact heap_new _ _) HY.out 1) (by decide) HNN.out (by simp; omega) ?_
               intro g5 c5 w5 hown5 hg5 hat5 hlt5
               have hk5 := HP.out w5 ((hg5.block wb (by simp; omega) HAR.out).trans (by exact heap_alloc_old _ _ hlt))
               have k51 := hk5.1
               have k52 := hk5.2
               clear hk5))
        all_goals
          have hsr : SameRow wr (.slice a k c) (.slice (some ⟨g5, 0, none⟩) (k + 1) c5) := fun q hq => by
            simp only [Value.ownBlock, Option.some.injEq] at hq
            subst hq
            rcases hat5 with h | h
            · exact .inl h
            · exact .inr (by rw [h]; simp)
          have hG := HW.out.grown (v' := .slice (some ⟨g5, 0, none⟩) (k + 1) c5) (bs := [y]) (by intro q hq; exact heap_alloc_old _ _ hq) (by simp) (by rfl) (by rfl) (by rfl) (by rw [HKK.out]; exact hown5) hg5 HY.out (by rw [HKK.out]; exact HFT.out) hsr
          rw [HSU.out ()] at hG
          have HW6 := hid hG.1
          have HK6 := hid (HK.out.trans HS.out hG.2)
          have HS6 := hid (HS.out.trans HK.out.size hsr)
          clear hG hsr hown5 hg5 hat5 hlt5
          go_wp2
          exact ⟨⟨i + 1, _, by omega, by go_num, HW6, HK6, HS6⟩, by simp [intOf]; omega⟩
      · obtain rfl : i = n := by omega
        go_wp2
        go_end0
        refine ⟨rfl, v', ?_, HK.out, HS.out⟩
        rw [HE3.out]
        exact HW.out
end Go.Proofs.YtehjikogdaclgaaDoor

namespace Go.Proofs.YtehjikogdaclgaaDoor
open Go Go.RowKit
set_option linter.unusedVariables false

/-- what an addition to a Writer leaves -/
def Added (wb lim : Nat) (v : Value) (l : List Nat) (f : Bool) (bs : List Nat) (w w' : World) : Prop := ∃ v', WrAt w' wb lim v' (wadd lim l f bs).1 (wadd lim l f bs).2 ∧ KeptR wb v w w' ∧ SameRow w v v'

set_option maxRecDepth 100000 in
theorem U8_any (wb lim x : Nat) (v : Value) (l : List Nat) (f : Bool) (w : World) (W : WrAt w wb lim v l f) (hx : x < 2 ^ 8) :
    Calls Tryd.prog 45 #[.pointer (some ⟨wb, 0, none⟩), .int .u8 (x : Int)] w fun e w' => e = .returned (.tuple #[]) ∧ Added wb lim v l f (beL x 1) w w' := by
  have HN := hid (number_any wb lim x 1 v l f w W (by omega) (Nat.lt_of_lt_of_le hx (by decide)))
  have h0 : IntKind.u64.wrap (x : Int) = (x : Int) := by rw [IntKind.wrap_u64]; omega
  clear W
  go_enter Tryd.func45, Tryd.ntmps45
  go_wp2_with fail
  refine HN.out.mono ?_
  rintro e w2 ⟨rfl, h⟩
  go_wp2
  go_end0
  exact ⟨rfl, h⟩

set_option maxRecDepth 100000 in
theorem U16_any (wb lim x : Nat) (v : Value) (l : List Nat) (f : Bool) (w : World) (W : WrAt w wb lim v l f) (hx : x < 2 ^ 16) :
    Calls Tryd.prog 46 #[.pointer (some ⟨wb, 0, none⟩), .int .u16 (x : Int)] w fun e w' => e = .returned (.tuple #[]) ∧ Added wb lim v l f (beL x 2) w w' := by
  have HN := hid (number_any wb lim x 2 v l f w W (by omega) (Nat.lt_of_lt_of_le hx (by decide)))
  have h0 : IntKind.u64.wrap (x : Int) = (x : Int) := by rw [IntKind.wrap_u64]; omega
  clear W
  go_enter Tryd.func46, Tryd.ntmps46
  go_wp2_with fail
  refine HN.out.mono ?_
  rintro e w2 ⟨rfl, h⟩
  go_wp2
  go_end0
  exact ⟨rfl, h⟩
end Go.Proofs.YtehjikogdaclgaaDoor

namespace Go.Proofs.YtehjikogdaclgaaDoor
open Go Go.RowKit
set_option linter.unusedVariables false

theorem Bs.keptR {w w' : World} {wb n c : Nat} {a : Option Addr} {vr : Value} {l : List Nat} (h : Bs w (.slice a n c) l) (k : KeptR wb vr w w') (ho : ∀ ad, a = some ad → 0 < n → ad.block ≠ wb ∧ vr.ownBlock ≠ some ad.block) : Bs w' (.slice a n c) l := by
  have hn := h.len
  obtain ⟨a', c', h1, h2, h3⟩ := h
  simp only [Value.slice.injEq] at h1
  obtain ⟨rfl, h11, rfl⟩ := h1
  refine ⟨_, _, by rw [← hn], h2, fun hl => ?_⟩
  obtain ⟨b, o, ha, hc⟩ := h3 hl
  refine ⟨b, o, ha, fun i hi => ?_⟩
  have h4 := hc i hi
  obtain ⟨h5, h6⟩ := ho _ ha (by omega)
  rw [World.cell?_of_block (a := ⟨b, o + i, none⟩) (k.block b (World.block_lt_of_cell? _ _ h4) h5 h6)]
  exact h4
theorem wpList_raw {ops : Array Oper} {rest : List Oper} {o : Oper} {a : Act} {w : World} {Q : Exit → Act → World → Prop} (hgd : o.guard = none) (s x : Operand)
    (ho : o.op = .call { callee := .builtin .append, args := #[s, x], argTypes := #[22, 22] }) (base n0 : Nat) (v0 : Value) (l0 : List Nat) (hs : a.eval s = v0) (hown : w.ownsRow base 5 1 v0 n0 (u8s l0))
    (sa : Option Addr) (m c : Nat) (l : List Nat) (hx : a.eval x = .slice sa m c) (hb : Bs w (.slice sa m c) l) (hnil : sa = none → c = 0) (hm : n0 + m ≤ 461168601842) (hbase : base ≤ w.heap.size)
    (hK : ∀ v' w', w'.ownsRow base 5 1 v' (n0 + m) (u8s (l0 ++ l)) → w.grownBy w' v0.ownBlock → SameRow w v0 v' → wpList Tryd.prog ops Q rest (a.put o.dst v') w') :
    wpList Tryd.prog ops Q (o :: rest) a w := by
  obtain ⟨i0, hi, hz0, hz1, hz2⟩ := info_parts info5
  have hlen := hb.len
  have hap : u8s (l0 ++ l) = u8s l0 ++ u8s l := by simp [u8s]
  cases sa with
  | none =>
    obtain rfl := hnil rfl
    rcases hb.addr with ⟨h0, _⟩ | ⟨_, b, o, c', hv⟩
    · subst h0
      obtain rfl : m = 0 := hlen
      refine Go.wpList_append_own_none hgd s x _ ho base _ i0 1 Tryd.underlying22 hi _ n0 (u8s l0) hs hown hx ?_
      refine hK _ _ ?_ (World.grownBy.refl w _) (SameRow.refl _ _)
      rw [List.append_nil, Nat.add_zero]
      exact hown
    · simp at hv
  | some ad =>
    have hnews : ∀ j u, (u8s l)[j]? = some u → w.cell? (ad.add j) = some u := fun j u hj => by
      have hjl : j < l.length := by have := (List.getElem?_eq_some_iff.1 hj).1; simpa [u8s] using this
      rcases hb.addr with ⟨h0, _⟩ | ⟨_, b, o, c', hv⟩
      · rw [h0] at hjl; exact absurd hjl (Nat.not_lt_zero _)
      · simp only [Value.slice.injEq, Option.some.injEq] at hv
        obtain ⟨rfl, _, _⟩ := hv
        have hc := hb.cell j hjl
        have e : (⟨b, o, none⟩ : Addr).add j = ⟨b, o + j, none⟩ := by unfold Addr.add; split <;> simp_all
        rw [e, hc, ← hj]
        simp [u8s, List.getElem?_eq_getElem hjl]
    refine Go.wpList_append_own_at w hgd s x _ ho base 5 i0 (.int .u8 0) 1 1 Tryd.underlying22 hi hz0 hz1 hz2 rfl (by decide) _ n0 (u8s l0) hs hown ad m c (u8s l) hx (by simp [u8s]; omega) hnews (fun u hu => by
      unfold u8s at hu
      obtain ⟨y, _, rfl⟩ := List.mem_map.1 hu
      rfl) (by unfold maxLen; omega) (by omega) hbase ?_
    intro v' w' hown' hg _ hat
    rw [← hap] at hown'
    refine hK v' w' hown' hg (fun q hq => ?_)
    rcases hat with h | h
    · exact .inl (h ▸ hq)
    · exact .inr (by rw [h] at hq; exact Nat.le_of_eq (Option.some.inj hq))

set_option maxRecDepth 100000 in
set_option maxHeartbeats 2000000 in
theorem Raw_any (wb lim n c : Nat) (a : Option Addr) (v : Value) (l bs : List Nat) (f : Bool) (w : World) (W : WrAt w wb lim v l f) (hb : Bs w (.slice a n c) bs) (hnil : a = none → c = 0) (hn : n ≤ 100000000000) (ho : ∀ ad, a = some ad → 0 < n → ad.block ≠ wb ∧ v.ownBlock ≠ some ad.block) :
    Calls Tryd.prog 47 #[.pointer (some ⟨wb, 0, none⟩), .slice a n c] w fun e w' => e = .returned (.tuple #[]) ∧ Added wb lim v l f bs w w' := by
  have HF := hid (fits_any wb lim n v l f w W hn)
  have hlen := hb.len
  have HE := hid (show (f || decide (lim < l.length + n)) = true → wadd lim l f bs = (l, true) from fun h => by unfold wadd; rw [← hlen, if_pos h])
  have HE2 := hid (show (f || decide (lim < l.length + n)) = false → wadd lim l f bs = (l ++ bs, false) from fun h => by unfold wadd; rw [← hlen, if_neg (by rw [h]; decide)])
  have HFF := hid (show (f || decide (lim < l.length + n)) = false → l.length + n ≤ lim ∧ f = false from fun h => by
    rw [Bool.or_eq_false_iff] at h
    have h2 := h.2
    simp only [decide_eq_false_iff_not] at h2
    exact ⟨by omega, h.1⟩)
  have hcap := W.cap
  have HB := hid hb
  have HLEN := hid hlen
  have HO := hid ho
  have HNIL := hid hnil
  have HW := hid W
  clear hb hlen W ho hnil
  go_enter Tryd.func47, Tryd.ntmps47
  go_wp2_with fail
  refine HF.out.mono ?_
  clear HF
  rintro e w2 ⟨rfl, hW2, hK2⟩
  generalize hb : (f || decide (lim < l.length + n)) = b at *
  clear hb
  have HW2 := hid hW2
  have HK2 := hid hK2
  clear hW2 hK2
  cases b with
  | true =>
    have HE3 := hid (HE.out rfl)
    go_wp2
    go_end0
    refine ⟨rfl, v, ?_, HK2.out, SameRow.refl _ _⟩
    rw [HE3.out]
    exact HW2.out
  | false =>
    have hfit := (HFF.out rfl).1
    have HE3 := hid (HE2.out rfl)
    have hlt := HW2.out.lt_size
    have c1 : w2.cell? ⟨wb, 1, none⟩ = some v := by rw [cell_of_heap HW2.out.at_]; rfl
    have HP := hid (show ∀ w' : World, w'.heap[wb]? = w2.heap[wb]? → w'.cell? ⟨wb, 1, none⟩ = some v ∧ w'.frozen? ⟨wb, 1, none⟩ = false from fun w' h => ⟨by rw [World.cell?_of_block (a := ⟨wb, 1, none⟩) h]; exact c1, by rw [World.frozen?_of_block (a := ⟨wb, 1, none⟩) h]; exact free_of_heap HW2.out.at_ 1⟩)
    have HAR := hid (show some wb ≠ v.ownBlock from fun e => by have := (HW2.out.own.lt wb e.symm).1; omega)
    have HB2 := hid (HB.out.keptR HK2.out HO.out)
    have HFA := hid ((HFF.out rfl).2)
    have HSZ := hid (show l.length + n ≤ 461168601842 from by omega)
    have HWA := hid (show WrAt w2 wb lim v l false from HW2.out)
    have HFT := hid (show l.length + bs.length ≤ lim from by rw [← HLEN.out]; exact hfit)
    have hsz : wb + 1 ≤ w2.heap.size := hlt
    have HALL := hid (show ∀ z ∈ l ++ bs, z < 256 from fun z hz => by
      rcases List.mem_append.1 hz with h | h
      · exact HW2.out.lt z h
      · obtain ⟨_, _, _, h2, _⟩ := HB2.out
        exact h2 z h)
    clear HE HE2 HFF hfit
    go_wp2_with (refine wpList_raw (by rfl) (.tmp 12) (.tmp 13) (by rfl) (wb + 1) l.length v l (by rfl) HWA.out.own a n c bs (by rfl) HB2.out HNIL.out HSZ.out hsz ?_
                 intro v5 w5 hown5 hg5 hsr5
                 obtain ⟨a5, c5, e5, -, -, -, -⟩ := bs_of_owns hown5 HALL.out
                 subst e5
                 have hk5 := HP.out w5 (hg5.block wb hlt HAR.out)
                 have k51 := hk5.1
                 have k52 := hk5.2
                 clear hk5)
    have hG := HWA.out.grown (bs := bs) (by intro q hq; rfl) (Nat.le_refl _) (by rfl) (by rfl) (by rfl) (by rw [← HLEN.out]; exact hown5) hg5 (by obtain ⟨_, _, _, h, _⟩ := HB2.out; exact h) HFT.out hsr5
    go_end0
    refine ⟨rfl, _, ?_, HK2.out.trans (SameRow.refl _ _) hG.2, (SameRow.refl w v).trans HK2.out.size hsr5⟩
    rw [HE3.out]
    exact hG.1
end Go.Proofs.YtehjikogdaclgaaDoor

namespace Go.Proofs.YtehjikogdaclgaaDoor
open Go Go.RowKit
set_option linter.unusedVariables false

/-- a copy of bytes in memory of its own -/
def Copied (w : World) (n : Nat) (l : List Nat) (e : Value) (w' : World) : Prop := ∃ a c, e = .slice a n c ∧ n ≤ c ∧ Bs w' (.slice a n c) l ∧ (a = none → c = 0) ∧ (∀ ad, a = some ad → w.heap.size ≤ ad.block ∧ ad.block < w'.heap.size) ∧ Below w.heap.size w w'

set_option maxRecDepth 100000 in
set_option maxHeartbeats 2000000 in
theorem Clone_any (a : Option Addr) (n c : Nat) (l : List Nat) (w : World) (hb : Bs w (.slice a n c) l) (hnil : a = none → c = 0) (hn : n ≤ 100000000000) :
    Calls Tryd.prog 67 #[.slice a n c] w fun e w' => ∃ v, e = .returned v ∧ Copied w n l v w' := by
  cases a with
  | none =>
    obtain rfl := hnil rfl
    have h0 : l = [] := by
      rcases hb.addr with ⟨h0, _⟩ | ⟨_, b, o, c', hv⟩
      · exact h0
      · simp at hv
    subst h0
    have hn0 : n = 0 := hb.len
    subst hn0
    have HB := hid hb
    have hq : (binOp .eql 22 (.slice none 0 0) (.slice none 0 0)).run Tryd.prog w = .ok (.bool true) w := run_eql_slice_nil w _ _ none 0 0 Tryd.underlying22
    clear hb
    go_enter Tryd.func67, Tryd.ntmps67
    go_wp2
    go_ret
    exact ⟨_, rfl, none, 0, rfl, Nat.le_refl _, HB.out, fun _ => rfl, (fun ad h => by cases h), Below.refl _ _⟩
  | some ad =>
    have HB := hid (hb.alloc (.cells #[] 5))
    have HNW := hid (heap_new w (.cells #[] 5))
    have hq : (binOp .eql 22 (.slice (some ad) n c) (.slice none 0 0)).run Tryd.prog w = .ok (.bool false) w := run_eql_slice_nil w _ _ (some ad) n c Tryd.underlying22
    clear hb hnil
    go_enter Tryd.func67, Tryd.ntmps67
    go_wp2_with (refine wpList_clone (by rfl) (.tmp 5) (.tmp 6) (by rfl) w.heap.size (by rfl) HNW.out (some ad) n c l (by rfl) HB.out (fun h => by cases h) (by omega) ?_
                 intro a5 c5 w5 hb5 hc5 hw5 hn5 hk5)
    go_ret
    refine ⟨_, rfl, a5, c5, rfl, hc5, hb5, hn5, fun q hq => hw5 q hq, ?_⟩
    exact (((Below.refl w.heap.size w).alloc (Nat.le_refl _) (.cells #[] 5))).trans (hk5.below (by simp) (Nat.le_refl _))

/-- what Bytes answers -/
def BytesRes (f : Bool) (n : Nat) (l : List Nat) (w : World) (e : Ending) (w' : World) : Prop :=
  (f = true → e = .returned (.tuple #[.slice none 0 0, .int .i64 3]) ∧ w = w') ∧ (f = false → ∃ u, e = .returned (.tuple #[u, .int .i64 0]) ∧ Copied w n l u w')

set_option maxRecDepth 100000 in
set_option maxHeartbeats 2000000 in
theorem Bytes_any (wb lim : Nat) (v : Value) (l : List Nat) (f : Bool) (w : World) (W : WrAt w wb lim v l f) :
    Calls Tryd.prog 48 #[.pointer (some ⟨wb, 0, none⟩)] w fun e w' => BytesRes f l.length l w e w' := by
  have c2 : w.cell? ⟨wb, 2, none⟩ = some (.bool f) := by rw [cell_of_heap W.at_]; rfl
  have c1 : w.cell? ⟨wb, 1, none⟩ = some v := by rw [cell_of_heap W.at_]; rfl
  obtain ⟨a, c, rfl, hc, hb⟩ := W.sl
  have hnil : a = none → c = 0 := fun e => by
    rcases W.own.2 with ⟨h, _⟩ | ⟨g, cap, cur, h, _⟩
    · simp only [Value.slice.injEq] at h; exact h.2.2
    · simp only [Value.slice.injEq] at h; rw [e] at h; cases h.1
  have HC := hid (Clone_any a l.length c l w hb hnil (Nat.le_trans W.fit W.cap))
  clear hb hnil hc W
  cases f with
  | true =>
    go_enter Tryd.func48, Tryd.ntmps48
    go_wp2
    go_ret2
    exact ⟨fun _ => ⟨rfl, rfl⟩, fun h => by cases h⟩
  | false =>
    generalize hm : l.length = m at *
    have HM := hid (fun (_ : Unit) => hm)
    clear hm
    go_enter Tryd.func48, Tryd.ntmps48
    go_wp2_with fail
    refine HC.out.mono ?_
    rintro e w2 ⟨u, rfl, h⟩
    go_wp2
    go_ret2
    exact ⟨fun h => (by cases h), fun _ => ⟨u, rfl, h⟩⟩
end Go.Proofs.YtehjikogdaclgaaDoor

namespace Go.Proofs.YtehjikogdaclgaaDoor
open Go Go.RowKit
set_option linter.unusedVariables false

/-- a Writer that began in world w0 and has not failed -/
def EncI (w0 wx : World) (lim : Nat) (l : List Nat) : Prop := ∃ v, WrAt wx w0.heap.size lim v l false ∧ Below w0.heap.size w0 wx
theorem EncI.step {w0 wx w' : World} {lim : Nat} {v : Value} {l bs : List Nat} (W : WrAt wx w0.heap.size lim v l false) (hb : Below w0.heap.size w0 wx) (h : Added w0.heap.size lim v l false bs wx w') (hf : l.length + bs.length ≤ lim) : EncI w0 w' lim (l ++ bs) := by
  obtain ⟨v', h1, h2, h3⟩ := h
  have e : wadd lim l false bs = (l ++ bs, false) := by unfold wadd; rw [if_neg (by simp; omega)]
  rw [e] at h1
  refine ⟨v', h1, hb.trans (h2.below hb.size (Nat.le_refl _) (fun k hk => ?_))⟩
  have := (W.own.lt k hk).1
  omega
/-- digests in memory, one behind the other -/
def DgAt (w : World) (v : Value) (D : List (List Nat)) : Prop := ∃ a c, v = .slice a D.length c ∧ (∀ d ∈ D, d.length = 32 ∧ ∀ x ∈ d, x < 256) ∧ (D ≠ [] → ∃ b o, a = some ⟨b, o, none⟩ ∧ ∀ j, j < D.length → w.rangeAt b (o + j * 32) (u8s (D.getD j [])))
theorem ManAt.od {w : World} {b : Nat} {k n t s : Int} {od : List Nat} {v : Value} (M : ManAt w b k n t s od v) (h : od.length = 32) (hl : ∀ x ∈ od, x < 256) : Bs w (.slice (some ⟨b, 4, none⟩) 32 32) od := by
  refine ⟨some ⟨b, 4, none⟩, 32, by rw [h], hl, fun _ => ⟨b, 4, rfl, fun i hi => ?_⟩⟩
  rw [cell_of_heap M, List.getElem?_toArray]
  unfold mcells
  rw [List.append_assoc, List.getElem?_append_right (by simp), List.getElem?_append_left (by simp [u8s]; omega)]
  simp [u8s, hi]
theorem WrAt.below {w w' : World} {wb lim : Nat} {v : Value} {l : List Nat} {f : Bool} (W : WrAt w wb lim v l f) (k : Below w.heap.size w w') : WrAt w' wb lim v l f :=
  ⟨(k.block _ W.lt_size).trans W.at_, W.own.kept (row := none) ⟨k.os, k.tape, k.output, k.size, fun i hi _ => k.block i hi⟩ (by cases v.ownBlock <;> simp), W.lt, W.fit, W.cap⟩
theorem beL_one (x : Nat) (h : x < 256) : beL x 1 = [x] := by
  simp [beL, beB, List.range_succ, Nat.mod_eq_of_lt h]
theorem beL_two (x : Nat) (h : x < 65536) : beL x 2 = [x / 256, x % 256] := by
  have h2 : x / 256 % 256 = x / 256 := Nat.mod_eq_of_lt (by omega)
  simp [beL, beB, List.range_succ, h2]
theorem range_below {w w' : World} {b o : Nat} {cs : List Value} (h : w.rangeAt b o cs) (k : Below w.heap.size w w') : w'.rangeAt b o cs := fun j v hj => by
  have h1 := h j v hj
  rw [k.cell (World.block_lt_of_cell? _ _ h1)]
  exact h1
def encHead (k n t s : Nat) (od : List Nat) : List Nat := [77, 1, k, n, t, s / 256, s % 256] ++ od
def encTo (k n t s : Nat) (od : List Nat) (D : List (List Nat)) (i : Nat) : List Nat := encHead k n t s od ++ (D.take i).flatten

set_option maxRecDepth 100000 in
set_option maxHeartbeats 4000000 in
theorem EncodeM_any (k n t s : Nat) (od : List Nat) (D : List (List Nat)) (v : Value) (h : od.length = 32) (hol : ∀ x ∈ od, x < 256) (w : World) (hD : DgAt w v D) (hok : manB k n t s D.length = true) :
    Calls Tryd.prog 22 #[.agg (mcells k n t s od v).toArray] w fun e w' => ∃ u, e = .returned (.tuple #[u, .int .i64 0]) ∧ ∃ wx, Copied wx (7 + 32 * (1 + t)) (encTo k n t s od D t) u w' ∧ Below w.heap.size w wx := by
  obtain ⟨a, c, rfl, hDl, hDc⟩ := hD
  have hM : ManAt (w.alloc (.cells (mcells k n t s od (.slice a D.length c)).toArray 27)) w.heap.size k n t s od (.slice a D.length c) := heap_new _ _
  have HM := hid hM
  have HB := hid ((Below.refl w.heap.size w).alloc (Nat.le_refl _) (.cells (mcells k n t s od (.slice a D.length c)).toArray 27))
  have HIF := hid (show (Tryd.prog.info? 27).map (·.size) = some (mcells k n t s od (.slice a D.length c)).length from by rw [mcells_length _ _ _ _ _ _ h]; kernel_rfl)
  have HC := hid (fun w => CheckManifest_any k n t s od a D.length c h w)
  have hme : manE k n t s D.length = 0 := by unfold manE; rw [if_pos hok]
  rw [hme] at HC
  have hnum : 1 ≤ k ∧ k ≤ n ∧ n ≤ t ∧ t ≤ 255 ∧ s ≤ 8192 ∧ D.length = t := by
    unfold manB vnB vcB at hok
    simp only [Bool.and_eq_true, decide_eq_true_eq] at hok
    omega
  obtain ⟨w1, hw1⟩ : ∃ w1, w1 = w.alloc (.cells (mcells k n t s od (.slice a D.length c)).toArray 27) := ⟨_, rfl⟩
  rw [← hw1] at HB HM
  have hs1 : w.heap.size < w1.heap.size := by rw [hw1]; simp
  have HRA := hid (show w1.rangeAt w.heap.size 0 (mcells k n t s od (.slice a D.length c)) from fun j v hj => by
    rw [Nat.zero_add, cell_of_heap HM.out, List.getElem?_toArray]
    exact hj)
  have HH := hid h
  have HOL := hid hol
  have HDL := hid hDl
  have HDC := hid hDc
  have HN := hid hnum
  clear hM h hol hDl hDc hok hme hnum
  go_enter Tryd.func22, Tryd.ntmps22
  go_upto_region 1 with fail
  change Code.wp _ _ _ _ (w.alloc (.cells (mcells k n t s od (.slice a D.length c)).toArray 27))
  rw [← hw1]
  clear hw1
  go_wp2_with (refine wpList_load_mid (by rfl) 27 (.tmp 1) (by rfl) w.heap.size 0 (by rfl) (mcells k n t s od (.slice a D.length c)) _ HRA.out Tryd.underlying27 rfl HIF.out ?_)
  refine (HC.out w1).mono ?_
  rintro e w2 ⟨rfl, hb2⟩
  have HM2 := hid (show ManAt w2 w.heap.size k n t s od (.slice a D.length c) from (hb2.block _ hs1).trans HM.out)
  have HB2 := hid (HB.out.trans (hb2.mono (by omega)))
  obtain ⟨c0, c1, c2, c3, c36⟩ := HM2.out.c HH.out
  have hs2 : w.heap.size < w2.heap.size := Nat.lt_of_lt_of_le hs1 hb2.size
  clear hb2 HM HB HIF HC HRA
  go_wp2_with fail
  refine (manifestSize_any t (by have := HN.out; omega) w2).mono ?_
  rintro e w3 ⟨rfl, rfl⟩
  go_wp2_with fail
  refine (NewWriter_any (7 + 32 * (1 + t)) (by have := HN.out; omega) w2).mono ?_
  rintro e w3 ⟨rfl, hW3, hb3⟩
  have HCE := hid (show ∀ wx, Below w2.heap.size w2 wx → wx.cell? ⟨w.heap.size, 0, none⟩ = some (.int .i64 (k : Int)) ∧ wx.cell? ⟨w.heap.size, 1, none⟩ = some (.int .i64 (n : Int)) ∧ wx.cell? ⟨w.heap.size, 2, none⟩ = some (.int .i64 (t : Int)) ∧ wx.cell? ⟨w.heap.size, 3, none⟩ = some (.int .i64 (s : Int)) ∧ wx.cell? ⟨w.heap.size, 36, none⟩ = some (.slice a D.length c) from fun wx hb => ManAt.c ((hb.block _ hs2).trans HM2.out) HH.out)
  obtain ⟨hk1, hkn, hnt, ht, hs8, hDt⟩ := HN.out
  clear c0 c1 c2 c3 c36
  have I1 := hid (show EncI w2 w3 (7 + 32 * (1 + t)) [] from ⟨_, hW3, hb3⟩)
  clear hW3 hb3
  obtain ⟨lim, hlim⟩ : ∃ lim, lim = 7 + 32 * (1 + t) := ⟨_, rfl⟩
  rw [← hlim] at I1
  have hl40 : 39 + 32 * t ≤ lim := by omega
  have HLIM := hid hlim
  clear hlim
  have q1 : IntKind.u8.wrap (k : Int) = (k : Int) := by rw [IntKind.wrap_u8]; omega
  have q2 : IntKind.u8.wrap (n : Int) = (n : Int) := by rw [IntKind.wrap_u8]; omega
  have q3 : IntKind.u8.wrap (t : Int) = (t : Int) := by rw [IntKind.wrap_u8]; omega
  have q4 : IntKind.u16.wrap (s : Int) = (s : Int) := by rw [IntKind.wrap_u16]; omega
  obtain ⟨v1, V1, B1⟩ := I1.out
  go_wp2_with fail
  refine (U8_any w2.heap.size lim 77 v1 [] false w3 V1 (by decide)).mono ?_
  rintro e w4 ⟨rfl, hA⟩
  have hI := EncI.step V1 B1 hA (by simp [beL_length]; omega)
  have I2 := hid hI
  clear hA hI V1 B1
  obtain ⟨v2, V2, B2⟩ := I2.out
  go_wp2_with fail
  refine (U8_any w2.heap.size lim 1 v2 _ false w4 V2 (by decide)).mono ?_
  rintro e w5 ⟨rfl, hA⟩
  have hI := EncI.step V2 B2 hA (by simp [beL_length]; omega)
  have I3 := hid hI
  clear hA hI V2 B2
  obtain ⟨v3, V3, B3⟩ := I3.out
  have d0 := (HCE.out w5 B3).1
  go_wp2_with fail
  refine (U8_any w2.heap.size lim k v3 _ false w5 V3 (by show k < 256; omega)).mono ?_
  rintro e w6 ⟨rfl, hA⟩
  have hI := EncI.step V3 B3 hA (by simp [beL_length]; omega)
  have I4 := hid hI
  clear hA hI V3 B3
  obtain ⟨v4, V4, B4⟩ := I4.out
  have d1 := (HCE.out w6 B4).2.1
  go_wp2_with fail
  refine (U8_any w2.heap.size lim n v4 _ false w6 V4 (by show n < 256; omega)).mono ?_
  rintro e w7 ⟨rfl, hA⟩
  have hI := EncI.step V4 B4 hA (by simp [beL_length]; omega)
  have I5 := hid hI
  clear hA hI V4 B4
  obtain ⟨v5, V5, B5⟩ := I5.out
  have d2 := (HCE.out w7 B5).2.2.1
  go_wp2_with fail
  refine (U8_any w2.heap.size lim t v5 _ false w7 V5 (by show t < 256; omega)).mono ?_
  rintro e w8 ⟨rfl, hA⟩
  have hI := EncI.step V5 B5 hA (by simp [beL_length]; omega)
  have I6 := hid hI
  clear hA hI V5 B5
  obtain ⟨v6, V6, B6⟩ := I6.out
  have d3 := (HCE.out w8 B6).2.2.2.1
  go_wp2_with fail
  refine (U16_any w2.heap.size lim s v6 _ false w8 V6 (by show s < 65536; omega)).mono ?_
  rintro e w9 ⟨rfl, hA⟩
  have hI := EncI.step V6 B6 hA (by simp [beL_length]; omega)
  have I7 := hid hI
  clear hA hI V6 B6
  clear d0 d1 d2 d3
  obtain ⟨v7, V7, B7⟩ := I7.out
  go_wp2_with fail
  have M9 : ManAt w9 w.heap.size k n t s od (.slice a D.length c) := (B7.block _ hs2).trans HM2.out
  have hne : w.heap.size ≠ w2.heap.size := by omega
  refine (Raw_any w2.heap.size lim 32 32 (some ⟨w.heap.size, 4, none⟩) v7 _ od false w9 V7 (M9.od HH.out HOL.out) (fun h => by cases h) (by omega) (fun ad h _ => by
    cases h
    exact ⟨hne, fun e => by
      have h9 : w2.heap.size + 1 ≤ w.heap.size := (V7.own.lt _ e).1
      omega⟩)).mono ?_
  rintro e w10 ⟨rfl, hA⟩
  have hI := EncI.step V7 B7 hA (by
    have ho := HH.out
    simp only [List.length_append, List.length_nil, beL_length]
    omega)
  obtain ⟨L, hL⟩ : ∃ L, L = [] ++ beL 77 1 ++ beL 1 1 ++ beL k 1 ++ beL n 1 ++ beL t 1 ++ beL s 2 ++ od := ⟨_, rfl⟩
  rw [← hL] at hI
  have hLl : L.length = 39 := by rw [hL]; simp [beL_length, HH.out]
  have HL := hid hL
  have I8 := hid hI
  clear hA hI V7 B7 I7 M9 hL
  obtain ⟨v8, V8, B8⟩ := I8.out
  have d36 := (HCE.out w10 B8).2.2.2.2
  rw [hDt] at d36
  clear V8 B8
  have hwb : w2.heap.size ≤ w10.heap.size := by obtain ⟨_, _, B⟩ := I8.out; exact B.size
  go_wp2
  go_loopw [48] (fun iv wr => ∃ i : Nat, i ≤ t ∧ iv = .int .i64 i ∧ Hid (EncI w2 wr lim (L ++ (D.take i).flatten)) ∧ Hid ((D.take i).flatten.length = 32 * i)) (fun iv _ => t - (intOf iv).toNat)
  case atStart => exact ⟨0, by omega, rfl, hid (by simpa using I8.out), hid (by simp)⟩
  case round =>
    clear I8
    obtain ⟨i, hi, rfl, I9, HFL⟩ := hrel
    by_cases hit : i < t
    · have hI : (i : Int) < (t : Int) := by omega
      have hDne : D ≠ [] := by intro h0; rw [h0] at hDt; simp at hDt; omega
      obtain ⟨b, o, rfl, hrg⟩ := HDC.out hDne
      have hr := hrg i (by omega)
      obtain ⟨d, hd⟩ : ∃ d, d = D.getD i [] := ⟨_, rfl⟩
      have hdm : d ∈ D := by rw [hd, List.getD_eq_getElem?_getD, List.getElem?_eq_getElem (by omega)]; exact List.getElem_mem _
      obtain ⟨hd32, hdl⟩ := HDL.out d hdm
      obtain ⟨v9, V9, B9⟩ := I9.out
      rw [← hd] at hr
      have HR := hid (range_below hr (HB2.out.trans (B9.mono (by omega))))
      have HIFD := hid (show (Tryd.prog.info? 24).map (·.size) = some (u8s d).length from by rw [show (u8s d).length = 32 from by simp [u8s, hd32]]; kernel_rfl)
      have HIFA := hid (show (Tryd.prog.info? 24).map (·.size) = some (u8s d).toArray.size from by rw [List.size_toArray, show (u8s d).length = 32 from by simp [u8s, hd32]]; kernel_rfl)
      have HOLD := hid (show (u8s (List.replicate 32 0)).toArray.size = (u8s d).toArray.size from by rw [List.size_toArray, List.size_toArray]; simp [u8s, hd32])
      have HONE := hid (show (u8s d).toArray.all (·.oneCell') = true from all_oneCell_toArray (fun u hu => by
        unfold u8s at hu
        obtain ⟨y, _, rfl⟩ := List.mem_map.1 hu
        rfl))
      have HNW := hid (show (wr.alloc (.cells (u8s (List.replicate 32 0)).toArray 24)).heap[wr.heap.size]? = _ from heap_new _ _)
      have HBA := hid (B9.alloc B9.size (.cells (u8s (List.replicate 32 0)).toArray 24))
      have HST := hid (show (D.take i).flatten ++ d = (D.take (i + 1)).flatten from by
        rw [hd, List.take_add_one, List.getD_eq_getElem?_getD, List.getElem?_eq_getElem (by omega)]
        simp only [List.flatten_append, Option.toList_some, List.flatten_cons, List.flatten_nil, List.append_nil, Option.getD_some])
      have HD32 := hid hd32
      have HDLT := hid hdl
      have HV9 := hid V9
      have HB9 := hid B9
      clear hr hrg hd hdm hd32 hdl V9 B9 I9 hDne
      go_wp2_with (first
        | (refine wpList_load_mid (by rfl) 24 (.tmp 50) (by rfl) b (o + i * 32) (by rfl) (u8s d) _ HR.out Tryd.underlying24 rfl HIFD.out ?_)
        | (refine wpList_store_row (by rfl) 24 (.tmp 7) (.tmp 51) (by rfl) wr.heap.size _ (u8s d).toArray _ (by rfl) (by rfl) HNW.out HIFA.out HOLD.out HONE.out ?_
           intro w8 hw8 hk8))
      have hb8 : Below wr.heap.size wr w8 := ((Below.refl wr.heap.size wr).alloc (Nat.le_refl _) (.cells (u8s (List.replicate 32 0)).toArray 24)).trans (hk8.below (by simp) (Nat.le_refl _))
      have hbs8 : Bs w8 (.slice (some ⟨wr.heap.size, 0, none⟩) 32 32) d := ⟨some ⟨wr.heap.size, 0, none⟩, 32, by rw [HD32.out], HDLT.out, fun _ => ⟨_, 0, rfl, fun i hi => by
        rw [Nat.zero_add, cell_of_heap hw8]
        simp [u8s, hi]⟩⟩
      have V10 := HV9.out.below hb8
      have B10 := HB9.out.trans (hb8.mono HB9.out.size)
      have hlt9 := HV9.out.lt_size
      refine (Raw_any w2.heap.size lim 32 32 (some ⟨wr.heap.size, 0, none⟩) v9 _ d false w8 V10 hbs8 (fun h => by cases h) (by omega) (fun ad h _ => by
        cases h
        exact ⟨(by show wr.heap.size ≠ w2.heap.size; omega), fun e => by
          have h9 : wr.heap.size < wr.heap.size := (HV9.out.own.lt _ e).2
          omega⟩)).mono ?_
      rintro e w11 ⟨rfl, hA⟩
      have hI2 := EncI.step V10 B10 hA (by
        have h1 := HFL.out
        have h2 := HD32.out
        simp only [List.length_append]
        omega)
      rw [List.append_assoc, HST.out] at hI2
      have I10 := hid hI2
      have HFL2 := hid (show (D.take (i + 1)).flatten.length = 32 * (i + 1) from by
        have h1 := HFL.out
        have h2 := HD32.out
        rw [← HST.out, List.length_append]
        omega)
      clear hI2 hA V10 B10 hbs8 hb8 hw8 hk8 hlt9
      go_wp2
      exact ⟨⟨i + 1, by omega, by go_num, I10, HFL2⟩, by simp [intOf]; omega⟩
    · have hit2 : i = t := by omega
      obtain ⟨v9, V9, B9⟩ := I9.out
      have HEQ := hid (show L ++ (D.take i).flatten = encTo k n t s od D t from by
        rw [HL.out, hit2]
        unfold encTo encHead
        rw [beL_one 77 (by omega), beL_one 1 (by omega), beL_one k (by omega), beL_one n (by omega), beL_one t (by omega), beL_two s (by omega)]
        rfl)
      have HLEN := hid (show (L ++ (D.take i).flatten).length = 7 + 32 * (1 + t) from by
        have h1 := HFL.out
        rw [List.length_append]
        omega)
      have HBY := hid (Bytes_any w2.heap.size lim v9 _ false wr V9)
      have HBF := hid (HB2.out.trans (B9.mono (by omega)))
      clear V9 B9
      have hI : ¬ ((i : Int) < (t : Int)) := by omega
      go_wp2_with fail
      refine HBY.out.mono ?_
      rintro e w11 hres
      obtain ⟨u, rfl, hcp⟩ := hres.2 rfl
      rw [HLEN.out, HEQ.out] at hcp
      have HCP := hid hcp
      clear hcp hres
      go_wp2
      go_ret2
      exact ⟨u, rfl, wr, HCP.out, HBF.out⟩
end Go.Proofs.YtehjikogdaclgaaDoor

namespace Go.Proofs.YtehjikogdaclgaaDoor
open Go Go.RowKit
set_option linter.unusedVariables false

set_option maxRecDepth 100000 in
set_option maxHeartbeats 1000000 in
theorem PieceDigest_any (x : Nat) (hx : x < 65536) (a : Option Addr) (n c : Nat) (KC SH l : List Nat) (w : World) (V : Vars w KC SH) (hl : Bs w (.slice a n c) l) (hc : n ≤ c) (hsz : n ≤ 800000000) :
    Calls Tryd.prog 33 #[.int .i64 (x : Int), .slice a n c] w fun e w' => e = .returned (.agg (u8s (dig KC SH ([x / 256, x % 256] ++ l))).toArray) ∧ Below w.heap.size w w' := by
  have HV := hid V
  have HL := hid hl
  have hn := hl.len
  have HN := hid hn
  obtain ⟨w1, hw1⟩ : ∃ w1, w1 = w.alloc (.cells (u8s (List.replicate 32 0)).toArray 24) := ⟨_, rfl⟩
  have hb1 : Below w.heap.size w w1 := by rw [hw1]; exact (Below.refl _ _).alloc (Nat.le_refl _) _
  have HR1 := hid (show OwnD w1 w.heap.size (List.replicate 32 0) from by rw [hw1]; exact heap_new _ _)
  have hs1 : w1.heap.size = w.heap.size + 1 := by rw [hw1]; simp
  have HB1 := hid hb1
  have HV1 := hid (V.below hb1)
  have hvlt := V.lt
  clear V hl hb1 hn
  go_enter Tryd.func33, Tryd.ntmps33
  go_wp2_with fail
  change Calls _ _ _ (w.alloc (.cells (u8s (List.replicate 32 0)).toArray 24)) _
  rw [← hw1]
  clear hw1
  refine (NewHash_any KC SH w1 HV1.out).mono ?_
  rintro e w2 ⟨rfl, hM2, hb2⟩
  have HM2 := hid hM2
  have HR2 := hid ((hb2.block w.heap.size (by omega)).trans HR1.out)
  have HB2 := hid (HB1.out.trans (hb2.mono HB1.out.size))
  have HV2 := hid (HV1.out.below hb2)
  obtain ⟨hb, hhb⟩ : ∃ hb, hb = w1.heap.size := ⟨_, rfl⟩
  rw [← hhb] at HM2 ⊢
  have HHB := hid hhb
  have h4 : hb = w.heap.size + 1 := by omega
  have HS1 := hid hs1
  clear hM2 hb2 hhb hs1
  have hbl := HL.out.below HB2.out
  have hoff : 0 < n → Off hb (.slice a n c) := fun h0 => by
    rcases HL.out.addr with ⟨h1, _⟩ | ⟨h1, b, o, c', hv⟩
    · have := HN.out; rw [h1] at this; simp at this; omega
    · simp only [Value.slice.injEq] at hv
      obtain ⟨rfl, _, _⟩ := hv
      have h1 := HL.out.cell 0 (by rw [← HN.out]; exact h0)
      have h2 := World.block_lt_of_cell? _ _ h1
      show b ≠ hb
      simp only at h2
      omega
  have HBL := hid hbl
  have HOF := hid hoff
  clear hbl hoff
  have q3 : 3 ≤ hb := by omega
  have qh : w.heap.size ≤ hb := by omega
  have qn : w.heap.size ≠ hb := by omega
  have H4 := hid h4
  clear h4
  have u1 : IntKind.u16.wrap (x : Int) = (x : Int) := by rw [IntKind.wrap_u16]; omega
  have u2 : IntKind.u8.wrap ((x : Int) / 256) = ((x / 256 : Nat) : Int) := by rw [IntKind.wrap_u8]; omega
  have u3 : IntKind.u8.wrap (x : Int) = ((x % 256 : Nat) : Int) := by rw [IntKind.wrap_u8]; omega
  have p1 : x / 256 < 256 := by omega
  have p2 : x % 256 < 256 := by omega
  obtain ⟨xh, hxh⟩ : ∃ y, y = x / 256 := ⟨_, rfl⟩
  obtain ⟨xl, hxl⟩ : ∃ y, y = x % 256 := ⟨_, rfl⟩
  rw [← hxh] at u2 p1
  rw [← hxl] at u3 p2
  have HXH := hid (fun (_ : Unit) => hxh)
  have HXL := hid (fun (_ : Unit) => hxl)
  clear hxh hxl
  have hq2 : ∀ z ∈ [xh, xl], z < 256 := fun z hz => by
    simp only [List.mem_cons, List.not_mem_nil, or_false] at hz
    rcases hz with rfl | rfl
    · exact p1
    · exact p2
  have hhb2 : hb < w2.heap.size := by obtain ⟨_, _, H, _⟩ := HM2.out; exact H.lt
  obtain ⟨w5, hw5⟩ : ∃ w5, w5 = w2.alloc (.cells (u8s [xh, xl]).toArray 5) := ⟨_, rfl⟩
  have hb5 : Below w2.heap.size w2 w5 := by rw [hw5]; exact (Below.refl _ _).alloc (Nat.le_refl _) _
  have M5 := HM2.out.same (hb5.block hb hhb2)
  have V5 := HV2.out.below hb5
  have HR5 := hid ((hb5.block w.heap.size (lt_of_heap HR2.out)).trans HR2.out)
  have BS5 : Bs w5 (.slice (some ⟨w2.heap.size, 0, none⟩) 2 2) [xh, xl] := by rw [hw5]; exact Own.bs (l := [xh, xl]) (heap_new _ _) hq2 2
  have HQ := hid (Write_gen hb 2 2 (some ⟨w2.heap.size, 0, none⟩) KC SH [] [xh, xl] w5 M5 V5 q3 BS5 (Nat.le_refl _) (fun _ => by show w2.heap.size ≠ hb; omega) (by simp))
  have HBL5 := hid (HBL.out.below hb5)
  have HB5 := hid (HB2.out.trans (hb5.mono HB2.out.size))
  have HV5 := hid V5
  have HW5 := hid (fun (_ : Unit) => hw5)
  clear M5 V5 BS5 hb5 hhb2
  go_wp2_with fail
  change Calls _ _ _ (w2.alloc (.cells (u8s [xh, xl]).toArray 5)) _
  rw [← HW5.out ()]
  refine HQ.out.mono ?_
  clear HQ
  rintro e w6 ⟨rfl, hM6, hk6⟩
  rw [List.nil_append] at hM6
  have HM6 := hid hM6
  have HR6 := hid ((hk6.block w.heap.size (lt_of_heap HR5.out) qn).trans HR5.out)
  have HV6 := hid (HV5.out.kept hk6 q3)
  have HB6 := hid (HB5.out.trans (hk6.below HB5.out.size qh))
  have HBL6 := hid (show Bs w6 (.slice a n c) l from by
    by_cases h0 : 0 < n
    · exact HBL5.out.kept hk6 (HOF.out h0)
    · have hl0 : l = [] := List.length_eq_zero_iff.1 (by have := HN.out; omega)
      have hn0 : n = 0 := by omega
      rw [hl0, hn0]
      exact bs_nilH _ _ _)
  have HQ := hid (Write_gen hb n c a KC SH [xh, xl] l w6 HM6.out HV6.out q3 HBL6.out hc HOF.out (by simp; omega))
  clear hM6 hk6
  go_wp2_with fail
  refine HQ.out.mono ?_
  clear HQ
  rintro e w3 ⟨rfl, hM3, hk3⟩
  have HM3 := hid hM3
  have HR3 := hid ((hk3.block w.heap.size (lt_of_heap HR6.out) qn).trans HR6.out)
  have HV3 := hid (HV6.out.kept hk3 q3)
  have HB3 := hid (HB6.out.trans (hk3.below HB6.out.size qh))
  clear hM3 hk3
  go_wp2_with fail
  refine (Sum_any hb KC SH ([xh, xl] ++ l) w3 HM3.out HV3.out q3 (by have := HN.out; simp; omega)).mono ?_
  rintro e w4 ⟨rfl, hb4⟩
  have HR4 := hid ((hb4.block w.heap.size (lt_of_heap HR3.out)).trans HR3.out)
  have hbe := HB3.out.trans (hb4.mono HB3.out.size)
  have hl32 := dig_length KC SH ([xh, xl] ++ l)
  generalize hD : dig KC SH ([xh, xl] ++ l) = D at *
  have HD := hid (fun (_ : Unit) => hD)
  have hl32' : (u8s D).length = 32 := by simp [u8s, hl32]
  have HIF2 := hid (show (Tryd.prog.info? 24).map (·.size) = some (u8s D).toArray.size from by rw [List.size_toArray, hl32']; kernel_rfl)
  have HOLD := hid (show (u8s (List.replicate 32 0)).toArray.size = (u8s D).toArray.size from by rw [List.size_toArray, List.size_toArray, hl32']; rfl)
  have HONE := hid (show (u8s D).toArray.all (·.oneCell') = true from all_oneCell_toArray (u8s_oneH _))
  clear hD hb4 hl32 hl32'
  go_wp2_with (refine wpList_store_row (by rfl) 24 (.tmp 4) (.tmp 22) (by rfl) w.heap.size _ (u8s D).toArray _ (by rfl) (by rfl) HR4.out HIF2.out HOLD.out HONE.out ?_
               intro w8 hw8 hk8)
  have hres : (loadVar 24 ⟨w.heap.size, 0, none⟩).run Tryd.prog w8 = .ok (.agg (u8s D).toArray) w8 := run_loadVar_row _ _ 24 24 _ (0, 0) _ hw8 Tryd.underlying24 rfl HIF2.out
  refine bodyPost_ret (v := .agg (u8s D).toArray) (results_at Tryd.results33 rfl hres) rfl ⟨by rw [← HXH.out (), ← HXL.out ()]; exact congrArg (fun z => Ending.returned (.agg (u8s z).toArray)) (HD.out ()).symm, ?_⟩
  exact hbe.trans (hk8.below hbe.size (Nat.le_refl _))
end Go.Proofs.YtehjikogdaclgaaDoor

namespace Go.Proofs.YtehjikogdaclgaaDoor
open Go Go.RowKit
set_option linter.unusedVariables false

theorem setCells_heap (b : Nat) : ∀ (vs : List Value) (o : Nat) (w : World) (k : Nat), k ≠ b → (w.setCells b o vs).heap[k]? = w.heap[k]?
  | [], _, _, _, _ => rfl
  | v :: r, o, w, k, h => (setCells_heap b r (o + 1) _ k h).trans (Below.heap_setCell _ _ _ _ h)
theorem setCells_size (b : Nat) : ∀ (vs : List Value) (o : Nat) (w : World), (w.setCells b o vs).heap.size = w.heap.size
  | [], _, _ => rfl
  | v :: r, o, w => (setCells_size b r (o + 1) _).trans (by simp [World.setCell])
theorem setCells_rest (b : Nat) : ∀ (vs : List Value) (o : Nat) (w : World), (w.setCells b o vs).os = w.os ∧ (w.setCells b o vs).tape = w.tape ∧ (w.setCells b o vs).output = w.output
  | [], _, _ => ⟨rfl, rfl, rfl⟩
  | v :: r, o, w => setCells_rest b r (o + 1) _
theorem setCells_kept (b : Nat) (vs : List Value) (o : Nat) (w : World) : Kept b w (w.setCells b o vs) :=
  ⟨(setCells_rest b vs o w).1, (setCells_rest b vs o w).2.1, (setCells_rest b vs o w).2.2, by rw [setCells_size]; exact Nat.le_refl _, fun k _ h => setCells_heap b vs o w k h⟩
/-- a fresh block is written: what was there before is kept -/
theorem Kept.fresh {b b' : Nat} {w w' w'' : World} (h : Kept b w w') (k : Kept b' w' w'') (hb : w.heap.size ≤ b') : Kept b w w'' :=
  ⟨k.os.trans h.os, k.tape.trans h.tape, k.output.trans h.output, Nat.le_trans h.size k.size, fun i hi hib => (k.block i (Nat.lt_of_lt_of_le hi h.size) (by omega)).trans (h.block i hi hib)⟩
theorem range_same {w w' : World} {b o : Nat} {cs : List Value} (h : w.rangeAt b o cs) (k : w'.heap[b]? = w.heap[b]?) : w'.rangeAt b o cs := fun j v hj => (World.cell?_of_block (a := ⟨b, o + j, none⟩) k).trans (h j v hj)
theorem there_same {w w' : World} {b o n : Nat} (h : w.there b o n) (k : w'.heap[b]? = w.heap[b]?) : w'.there b o n := fun j hj => by
  rw [World.cell?_of_block (a := ⟨b, o + j, none⟩) k, World.frozen?_of_block (a := ⟨b, o + j, none⟩) k]
  exact h j hj
theorem there_of_heap {w : World} {b n : Nat} {cs : Array Value} {t : TypeId} (h : w.heap[b]? = some (.cells cs t (0, 0))) (hn : cs.size = n) : w.there b 0 n := fun j hj => by
  rw [Nat.zero_add]
  refine ⟨?_, free_of_heap h j⟩
  rw [cell_of_heap h, Array.getElem?_eq_getElem (by omega)]
  rfl
theorem there_sub {w : World} {b n : Nat} (h : w.there b 0 n) (o m : Nat) (hm : o + m ≤ n) : w.there b o m := fun j hj => by
  have h1 := h (o + j) (by omega)
  rwa [Nat.zero_add] at h1
/-- a store of many cells, as a step of a region -/
theorem step_store_mid {P : Program} {ops : Array Oper} {o : Oper} {a : Act} {w : World} {K : Act → World → Prop} {Q : Exit → Act → World → Prop} {E : Prop} (hgd : o.guard = none) (ty : TypeId) (x y : Operand) (ho : o.op = .store ty x y)
    (b off : Nat) (cells : Array Value) (hx : a.eval x = .pointer (some ⟨b, off, none⟩)) (hy : a.eval y = .agg cells) (ht : w.there b off cells.size) (hi : (P.info? ty).map (·.size) = some cells.size) (h1 : cells.all (·.oneCell') = true)
    (h : K (a.put o.dst undef) (w.setCells b off cells.toList)) : if Region.wanted o (yielded ops a.tmps) = true then Oper.wp P o a w K Q else E := by
  rw [if_pos (by simp [Region.wanted, hgd])]
  exact wp_store_mid ty x y ho b off cells hx hy ht hi h1 h
/-- a whole array stored, as a step of a region -/
theorem step_store_row {P : Program} {ops : Array Oper} {o : Oper} {a : Act} {w : World} {K : Act → World → Prop} {Q : Exit → Act → World → Prop} {E : Prop} (hgd : o.guard = none) (ty : TypeId) (x y : Operand) (ho : o.op = .store ty x y)
    (b : Nat) (old cells : Array Value) (t : TypeId) (hx : a.eval x = .pointer (some ⟨b, 0, none⟩)) (hy : a.eval y = .agg cells) (hg : w.heap[b]? = some (.cells old t (0, 0)))
    (hi : (P.info? ty).map (·.size) = some cells.size) (hs : old.size = cells.size) (h1 : cells.all (·.oneCell') = true)
    (h : ∀ w', w'.heap[b]? = some (.cells cells t (0, 0)) → Kept b w w' → K (a.put o.dst undef) w') : if Region.wanted o (yielded ops a.tmps) = true then Oper.wp P o a w K Q else E := by
  rw [if_pos (by simp [Region.wanted, hgd])]
  unfold Oper.wp execOp
  simp only [ho, hx, hy, Instr.storeAt, Instr.sureAddr, Sem.run_bind, Sem.run_pure, Result.andThen_ok, run_storeVar_row w b t ty old cells hg hi hs h1]
  exact h _ (setRow_heap w b old cells t (0, 0) hg) ⟨rfl, rfl, rfl, by simp [World.setRow], fun k _ hk => setRow_other w b k cells hk⟩
theorem info52 : (Tryd.prog.info? 24).map (fun i => (i.zero, i.size, i.bytes)) = some (some (.agg (u8s (List.replicate 32 0)).toArray), 32, 32) := by kernel_rfl
/-- a new row of n digests -/
def drow (n : Nat) : Obj := .cells (madeCells (u8s (List.replicate 32 0)).toArray (n * 32)) 24
theorem mk_d (n : Nat) (hn : n ≤ 100000) (w : World) : (Instr.makeSlice 25 (.int .i64 n) (.int .i64 n)).run Tryd.prog w = .ok (.slice (some ⟨w.heap.size, 0, none⟩) n n) (w.alloc (drow n)) := by
  obtain ⟨i0, hi, hz0, hz1, hz2⟩ := info_parts info52
  have h := run_make (P := Tryd.prog) w 25 24 i0 _ Tryd.underlying25 hi hz0 .i64 .i64 n n (by omega) (by omega) (by rw [hz2]; omega) (by omega)
  rw [h, hz1]
  simp only [Int.toNat_natCast, Value.cells]
  rfl
theorem there_drow (w : World) (n : Nat) : (w.alloc (drow n)).there w.heap.size 0 (n * 32) := there_of_heap (heap_new _ _) (size_madeCells _ _)
theorem list32 (l : List Nat) (h : l.length = 32) : ∃ x0 x1 x2 x3 x4 x5 x6 x7 x8 x9 x10 x11 x12 x13 x14 x15 x16 x17 x18 x19 x20 x21 x22 x23 x24 x25 x26 x27 x28 x29 x30 x31, l = [x0, x1, x2, x3, x4, x5, x6, x7, x8, x9, x10, x11, x12, x13, x14, x15, x16, x17, x18, x19, x20, x21, x22, x23, x24, x25, x26, x27, x28, x29, x30, x31] := by
  match l, h with
  | [x0, x1, x2, x3, x4, x5, x6, x7, x8, x9, x10, x11, x12, x13, x14, x15, x16, x17, x18, x19, x20, x21, x22, x23, x24, x25, x26, x27, x28, x29, x30, x31], _ => exact ⟨x0, x1, x2, x3, x4, x5, x6, x7, x8, x9, x10, x11, x12, x13, x14, x15, x16, x17, x18, x19, x20, x21, x22, x23, x24, x25, x26, x27, x28, x29, x30, x31, rfl⟩
/-- the manifest's value, built of its parts -/
theorem built_man (k n t s : Int) (D : List Nat) (hD : D.length = 32) (a : Option Addr) (m c : Nat) : Tryd.prog.built 27 [(0, .int .i64 k), (1, .int .i64 n), (2, .int .i64 t), (3, .int .i64 s), (4, .agg (u8s D).toArray), (5, .slice a m c)] = some (mcells k n t s D (.slice a m c)).toArray := by
  obtain ⟨x0, x1, x2, x3, x4, x5, x6, x7, x8, x9, x10, x11, x12, x13, x14, x15, x16, x17, x18, x19, x20, x21, x22, x23, x24, x25, x26, x27, x28, x29, x30, x31, rfl⟩ := list32 D hD
  kernel_rfl
theorem mcells_one (k n t s : Int) (D : List Nat) (a : Option Addr) (m c : Nat) : (mcells k n t s D (.slice a m c)).toArray.all (·.oneCell') = true := all_oneCell_toArray fun v hv => by
  unfold mcells at hv
  simp only [List.mem_append, List.mem_cons, List.not_mem_nil, or_false] at hv
  rcases hv with ((rfl | rfl | rfl | rfl) | h) | rfl
  · rfl
  · rfl
  · rfl
  · rfl
  · exact u8s_oneH _ v h
  · rfl
theorem put_sz {a : Act} {s : Tmp} {v : Value} : (a.put (some s) v).tmps.size = a.tmps.size := by simp [Act.put]
theorem ev_same {a : Act} {s : Tmp} {v : Value} (h : s < a.tmps.size) : (a.put (some s) v).eval (.tmp s) = v := by
  simp [Act.put, Act.eval, h]
theorem ev_other {a : Act} {s j : Tmp} {v : Value} (h : s ≠ j) : (a.put (some s) v).eval (.tmp j) = a.eval (.tmp j) := by
  simp [Act.put, Act.eval, h]
theorem with_frame {R : Act → World → Prop} {F : Act} {w : World} (h : ∀ a0, a0 = F → R a0 w) : R F w := h F rfl
/-- a step of a region by what the operation gives -/
theorem step_value {P : Program} {ops : Array Oper} {o : Oper} {a : Act} {w : World} {K : Act → World → Prop} {Q : Exit → Act → World → Prop} {E : Prop} (hgd : o.guard = none) {v : Value} {w' : World} (hrun : (execOp a.eval o).run P w = .ok (.value v) w')
    (h : K (a.put o.dst v) w') : if Region.wanted o (yielded ops a.tmps) = true then Oper.wp P o a w K Q else E := by
  rw [if_pos (by simp [Region.wanted, hgd])]
  unfold Oper.wp
  rw [hrun]
  exact h
/-- a call as a step of a region -/
theorem step_call {P : Program} {ops : Array Oper} {o : Oper} {a : Act} {w : World} {K : Act → World → Prop} {Q : Exit → Act → World → Prop} {E : Prop} (hgd : o.guard = none) {f : FuncId} {args : Array Value} (hrun : (execOp a.eval o).run P w = .ok (.enter f args) w) {v : Value} {R : World → Prop}
    (hc : Calls P f args w fun e w' => e = .returned v ∧ R w') (h : ∀ w', R w' → K (a.put o.dst v) w') : if Region.wanted o (yielded ops a.tmps) = true then Oper.wp P o a w K Q else E := by
  rw [if_pos (by simp [Region.wanted, hgd])]
  unfold Oper.wp
  rw [hrun, Oper.upon_enter]
  refine hc.mono ?_
  rintro e w' ⟨rfl, hr⟩
  exact h w' hr
theorem yields_op {P : Program} {ops : Array Oper} {o : Oper} {a : Act} {v : Value} (hgd : o.guard = none) (hrun : ∀ w, (execOp a.eval o).run P w = .ok (.value v) w) : Yields P ops o v a := .inl ⟨by simp [Region.wanted, hgd], hrun⟩
theorem map_one (x : Operand) (f : Operand → Value) : (#[x] : Array Operand).map f = #[f x] := by simp
theorem run_len_op {P : Program} {o : Oper} {a : Act} (x : Operand) (ts : Array TypeId) (ho : o.op = .call { callee := .builtin .len, args := #[x], argTypes := ts }) {s : Option Addr} {m c : Nat} (hx : a.eval x = .slice s m c) (hl : ∀ ty w, (Builtin.len_ ts ty #[.slice s m c]).run P w = .ok (.int .i64 (m : Int)) w) (w : World) : (execOp a.eval o).run P w = .ok (.value (.int .i64 (m : Int))) w := by
  have hv := map_one x a.eval
  rw [hx] at hv
  generalize (#[x] : Array Operand) = args at *
  simp [execOp, ho, resolve, invoke, hv, hl, go_sem]
theorem callFunc_enter {P : Program} {f : FuncId} {fn : Func} {c : Code} (hf : P.funcs[f]? = some fn) (hname : (fn.name == "runtime.NumGoroutine") = false) (hb : fn.body = some c) (args : Array Value) (w : World) : (callFunc f args).run P w = .ok (.enter f args) w := by
  have h1 : fn.name ≠ "runtime.NumGoroutine" := by simpa using hname
  simp [callFunc, hf, h1, hb]
theorem call_sha (args : Array Value) (w : World) : (callFunc 18 args).run Tryd.prog w = .ok (.enter 18 args) w := callFunc_enter Tryd.func18 (by kernel_rfl) (by rfl) args w
theorem call_pd (args : Array Value) (w : World) : (callFunc 33 args).run Tryd.prog w = .ok (.enter 33 args) w := callFunc_enter Tryd.func33 (by kernel_rfl) (by rfl) args w
theorem len_u8 (s : Option Addr) (m c : Nat) (ty : TypeId) (w : World) : (Builtin.len_ #[22] ty #[.slice s m c]).run Tryd.prog w = .ok (.int .i64 (m : Int)) w := by
  have h := Tryd.underlying22
  simp [Builtin.len_, run_underlying h, goInt, go_sem]
theorem run_call_op {P : Program} {o : Oper} {a : Act} (f : FuncId) (x : Operand) (ts : Array TypeId) (ho : o.op = .call { callee := .value (.func f), args := #[x], argTypes := ts }) (hc : ∀ vals w, (callFunc f vals).run P w = .ok (.enter f vals) w) {v : Value} (hx : a.eval x = v) (w : World) : (execOp a.eval o).run P w = .ok (.enter f #[v]) w := by
  have hv := map_one x a.eval
  rw [hx] at hv
  generalize (#[x] : Array Operand) = args at *
  simp [execOp, ho, resolve, invoke, hv, hc, go_sem]
theorem map_six (x0 x1 x2 x3 x4 x5 : Operand) (f : Operand → Value) : ((#[(0, x0), (1, x1), (2, x2), (3, x3), (4, x4), (5, x5)] : Array (Nat × Operand)).map fun (i, x) => (i, f x)).toList = [(0, f x0), (1, f x1), (2, f x2), (3, f x3), (4, f x4), (5, f x5)] := by simp
theorem yields_move {P : Program} {ops : Array Oper} {o : Oper} {a : Act} {v : Value} (x : Operand) (ho : o.op = .move x) (hgd : o.guard = none) (hx : a.eval x = v) : Yields P ops o v a := yields_op hgd fun w => by
  unfold execOp
  simp only [ho, hx]
  rfl
theorem yields_build {P : Program} {ops : Array Oper} {o : Oper} {a : Act} (hgd : o.guard = none) (t : TypeId) (x0 x1 x2 x3 x4 x5 : Operand) (ho : o.op = .build t #[(0, x0), (1, x1), (2, x2), (3, x3), (4, x4), (5, x5)]) {v0 v1 v2 v3 v4 v5 : Value} (h0 : a.eval x0 = v0) (h1 : a.eval x1 = v1) (h2 : a.eval x2 = v2) (h3 : a.eval x3 = v3) (h4 : a.eval x4 = v4) (h5 : a.eval x5 = v5)
    {cells : Array Value} (hp : P.built t [(0, v0), (1, v1), (2, v2), (3, v3), (4, v4), (5, v5)] = some cells) : Yields P ops o (.agg cells) a :=
  .inl ⟨by simp [Region.wanted, hgd], fun w => by
    have hv := map_six x0 x1 x2 x3 x4 x5 a.eval
    rw [h0, h1, h2, h3, h4, h5] at hv
    rw [← hv] at hp
    unfold execOp
    simp only [ho]
    have h := run_build (P := P) w t _ cells hp
    simp only [Sem.run_bind, h, Result.andThen_ok, Sem.run_pure]⟩
/-- the making of a row of digests, as a step of a region -/
theorem step_mkd {ops : Array Oper} {o : Oper} {a : Act} {w : World} {K : Act → World → Prop} {Q : Exit → Act → World → Prop} {E : Prop} (hgd : o.guard = none) (x : Operand) (ho : o.op = .makeSlice 25 x x) (n : Nat) (hn : n ≤ 100000) (hx : a.eval x = .int .i64 (n : Int))
    (h : ∀ gd w', gd = w.heap.size → w'.there gd 0 (n * 32) → Below w.heap.size w w' → gd < w'.heap.size → K (a.put o.dst (.slice (some ⟨gd, 0, none⟩) n n)) w') : if Region.wanted o (yielded ops a.tmps) = true then Oper.wp Tryd.prog o a w K Q else E := by
  have h1 := mk_d n hn w
  refine step_value (P := Tryd.prog) hgd (v := .slice (some ⟨w.heap.size, 0, none⟩) n n) (w' := w.alloc (drow n)) ?_ (h w.heap.size _ rfl (there_drow w n) ((Below.refl _ _).alloc (Nat.le_refl _) _) (by simp))
  unfold execOp
  simp only [ho, hx]
  simp [h1]
def mz : Array Value := (mcells 0 0 0 0 (List.replicate 32 0) (.slice none 0 0)).toArray
theorem alloc_man (w : World) : (Instr.alloc 27 true (.tuple #[])).run Tryd.prog w = .ok (.pointer (some ⟨w.heap.size, 0, none⟩)) (w.alloc (.cells mz 27)) := by kernel_rfl
theorem step_mkm {ops : Array Oper} {o : Oper} {a : Act} {w : World} {K : Act → World → Prop} {Q : Exit → Act → World → Prop} {E : Prop} (hgd : o.guard = none) (ho : o.op = .alloc 27)
    (h : ∀ mb w', mb = w.heap.size → w'.heap[mb]? = some (.cells mz 27 (0, 0)) → Below w.heap.size w w' → mb < w'.heap.size → K (a.put o.dst (.pointer (some ⟨mb, 0, none⟩))) w') : if Region.wanted o (yielded ops a.tmps) = true then Oper.wp Tryd.prog o a w K Q else E := by
  have h1 := alloc_man w
  refine step_value (P := Tryd.prog) hgd (v := .pointer (some ⟨w.heap.size, 0, none⟩)) (w' := w.alloc (.cells mz 27)) ?_ (h w.heap.size _ rfl (heap_new _ _) ((Below.refl _ _).alloc (Nat.le_refl _) _) (by simp))
  unfold execOp
  simp only [ho]
  simp [h1]
end Go.Proofs.YtehjikogdaclgaaDoor
