/-
  The reference's Number: a number's bytes, the highest first. · A Writer with any limit: NewWriter, its methods, a call of a method by its kind. · The reference's Wrote: the state behind a call of a Writer's method.
-/
import Derived.Test.YtdjnjmekdjcbaaaDoorWnu
import Derived.Deep.AppendLies
import Derived.Test.YtdjnjmekdjcbaaaDoorRd2
import Derived.Test.YtdjnjmekdjcbaaaDoorRfd
import Derived.Deep.RegionHeld3
import Derived.Deep.DeepCutAuto
namespace Go.Proofs.YtdjnjmekdjcbaaaDoor
open Go Go.RowKit
set_option linter.unusedVariables false

set_option maxRecDepth 100000 in
set_option maxHeartbeats 4000000 in
theorem Number_any (x n : Nat) (w : World) (hx : x < 18446744073709551616) (hn : n ≤ 8) :
    Calls Tryd.prog 50 #[.int .u64 (x : Int), .int .i64 (n : Int)] w fun e w' => ∃ v, e = .returned v ∧ w'.ownsRow w.heap.size 5 1 v n (u8s (beTo x n n)) ∧ Below w.heap.size w w' := by
  obtain ⟨i0, hi, hz0, hz1, hz2⟩ := info_parts info5
  have t0 : IntKind.i64.wrap ((n : Int) - 1) = (n : Int) - 1 := by rw [IntKind.wrap_i64]; omega
  have HOW0 := hid (show (w.alloc (.cells #[] 5)).ownsRow w.heap.size 5 1 (.slice (some ⟨w.heap.size, 0, none⟩) 0 0) 0 (u8s (beTo x n 0)) from
    ⟨rfl, .inr ⟨w.heap.size, 0, #[], rfl, Nat.le_refl _, heap_new _ _, Nat.le_refl _, Nat.zero_le _, rfl, rfl⟩⟩)
  have HB0 := hid (show Below w.heap.size w (w.alloc (.cells #[] 5)) from (Below.refl _ _).alloc (Nat.le_refl _) _)
  go_enter Tryd.func50, Tryd.ntmps50
  go_wp2
  go_loopw [5, 6] (fun ov iv wr => ∃ (j : Nat) (v : Value), j ≤ n ∧ iv = .int .i64 ((n : Int) - 1 - j) ∧ v = ov ∧ Hid (wr.ownsRow w.heap.size 5 1 v j (u8s (beTo x n j))) ∧ Hid (Below w.heap.size w wr)) (fun _ iv _ => (intOf iv + 1).toNat)
  case atStart => exact ⟨0, _, by omega, by congr 1; omega, rfl, HOW0, HB0⟩
  case round =>
    clear HOW0 HB0
    obtain ⟨j, v, hj, rfl, rfl, HO, HB⟩ := hrel
    by_cases hjn : j < n
    · obtain ⟨q, hq⟩ : ∃ q, q = n - 1 - j := ⟨_, rfl⟩
      have e0 : (n : Int) - 1 - (j : Int) = (q : Int) := by omega
      obtain ⟨y, hy⟩ : ∃ y, y = beB x n j := ⟨_, rfl⟩
      have hy2 : y = x / 2 ^ (8 * q) % 256 := by rw [hy, beB, ← hq]
      have HST := hid (fun (_ : Unit) => (show beTo x n (j + 1) = beTo x n j ++ [y] from by rw [beTo_succ, hy]))
      rw [e0]
      obtain ⟨sh, hsh⟩ : ∃ sh, sh = 8 * q := ⟨_, rfl⟩
      have hs56 : sh ≤ 56 := by omega
      have t1 : IntKind.u64.wrap (q : Int) = (q : Int) := by rw [IntKind.wrap_u64]; omega
      have t2 : IntKind.u64.wrap (8 * (q : Int)) = (sh : Int) := by rw [IntKind.wrap_u64]; omega
      have t3 : 8 * (q : Int) = (sh : Int) := by omega
      have t4 : IntKind.u64.wrap (sh : Int) = (sh : Int) := by rw [IntKind.wrap_u64]; omega
      have t5 : (0 : Int) ≤ (sh : Int) := by omega
      have t6 : (sh : Int) ≤ 64 := by omega
      have t7 : IntKind.i64.wrap ((q : Int) - 1) = (q : Int) - 1 := by rw [IntKind.wrap_i64]; omega
      have t9 : IntKind.u8.wrap ((x : Int) / 2 ^ sh) = (y : Int) := by
        have e : (x : Int) / 2 ^ sh = ((x / 2 ^ sh : Nat) : Int) := by norm_cast
        rw [e, IntKind.wrap_u8, hy2, hsh]
        omega
      have hq0 : (0 : Int) ≤ (q : Int) := by omega
      have HQ := hid hq
      have hw0 := HB.out.size
      clear hy hy2 hsh hq
      go_wp2_with (refine wpList_append_lies _ (by rfl) (.tmp 14) (.tmp 21) 27 (by rfl) w.heap.size 5 i0 (.int .u8 0) 1 1 Tryd.underlying27 hi hz0 hz1 hz2 rfl (by decide) v j (u8s (beTo x n j)) (by rfl) (HO.out.alloc _) ⟨wr.heap.size, 0, none⟩ 1 1 [.int .u8 (y : Int)] (by rfl) rfl (World.news_of_block (cs := #[.int .u8 (y : Int)]) (heap_new _ _)) (fun u hu => by rw [List.mem_singleton.1 hu]; rfl) (by decide) (by unfold maxLen; omega) (by omega) (by simp; omega) _ rfl ?_
                   intro g cap w5 hown hg hat hlt)
      have HO5 := hid (show w5.ownsRow w.heap.size 5 1 (.slice (some ⟨g, 0, none⟩) (j + 1) cap) (j + 1) (u8s (beTo x n (j + 1))) from by
        rw [HST.out (), show u8s (beTo x n j ++ [y]) = u8s (beTo x n j) ++ [.int .u8 (y : Int)] from by simp [u8s]]
        exact hown)
      have HB5 := hid (show Below w.heap.size w w5 from (HB.out.alloc hw0 _).grown hg (by simp; omega) (fun k e => (HO.out.lt k e).1))
      clear hown hg hat hlt
      exact ⟨⟨j + 1, _, by omega, by have h := HQ.out; congr 1; omega, rfl, HO5, HB5⟩, by have h := HQ.out; simp [intOf]⟩
    · obtain rfl : j = n := by omega
      have hlt0 : ¬ ((0 : Int) ≤ (j : Int) - 1 - (j : Int)) := by omega
      go_wp2
      go_ret
      exact ⟨_, rfl, HO.out, HB.out⟩
end Go.Proofs.YtdjnjmekdjcbaaaDoor

namespace Go.Proofs.YtdjnjmekdjcbaaaDoor
open Go Go.RowKit
set_option linter.unusedVariables false

/-- a Writer in memory: its limit, its data (a row of its own), whether it failed -/
structure WrG (w : World) (wb lim : Nat) (v : Value) (l : List Nat) (f : Bool) : Prop where
  at_ : w.heap[wb]? = some (.cells #[.int .i64 (lim : Int), v, .bool f] 83 (0, 0))
  own : w.ownsRow (wb + 1) 5 1 v l.length (u8s l)
  lt : ∀ n ∈ l, n < 256
  fit : l.length ≤ lim
  cap : lim < 9223372036854775808
theorem WrG.lt_size {w : World} {wb lim : Nat} {v : Value} {l : List Nat} {f : Bool} (W : WrG w wb lim v l f) : wb < w.heap.size := lt_of_heap W.at_
theorem WrG.sl {w : World} {wb lim : Nat} {v : Value} {l : List Nat} {f : Bool} (W : WrG w wb lim v l f) : ∃ a c, v = .slice a l.length c ∧ l.length ≤ c ∧ Bs w v l := by
  obtain ⟨a, c, h1, -, h3, h4, -⟩ := bs_of_owns W.own W.lt
  exact ⟨a, c, h1, h3, h4⟩
theorem WrG.fail {w : World} {wb lim : Nat} {v : Value} {l : List Nat} {f : Bool} (W : WrG w wb lim v l f) : WrG (w.setCell ⟨wb, 2, none⟩ (.bool true)) wb lim v l true := by
  refine ⟨?_, ?_, W.lt, W.fit, W.cap⟩
  · have h := heap_setCell_same w wb 2 _ _ (.bool true) W.at_
    simpa using h
  · refine ⟨W.own.1, ?_⟩
    rcases W.own.2 with h | ⟨g, cap, cur, h1, h2, h3, h4⟩
    · exact .inl h
    · exact .inr ⟨g, cap, cur, h1, h2, by rw [heap_setCell_other w _ g _ (by show g ≠ wb; omega)]; exact h3, h4⟩

set_option maxRecDepth 100000 in
set_option maxHeartbeats 2000000 in
theorem NewWriterG_any (lim : Int) (hl : lim < 9223372036854775808) (w : World) :
    Calls Tryd.prog 11 #[.int .i64 lim] w fun e w' => e = .returned (.pointer (some ⟨w.heap.size, 0, none⟩)) ∧ WrG w' w.heap.size lim.toNat (.slice none 0 0) [] false ∧ Below w.heap.size w w' := by
  by_cases h0 : (0 : Int) ≤ lim
  · obtain ⟨m, rfl⟩ : ∃ m : Nat, lim = (m : Int) := ⟨lim.toNat, by omega⟩
    have HM := hid (show WrG (w.alloc (.cells #[.int .i64 (m : Int), .slice none 0 0, .bool false] 83)) w.heap.size (m : Int).toNat (.slice none 0 0) [] false from ⟨heap_new _ _, World.ownsRow_nil _ _ _ _, fun n h => absurd h List.not_mem_nil, Nat.zero_le _, by omega⟩)
    go_enter Tryd.func11, Tryd.ntmps11
    go_wp2
    go_ret
    exact ⟨rfl, HM.out, (Below.refl _ _).alloc (Nat.le_refl _) _⟩
  · have HM := hid (show WrG (w.alloc (.cells #[.int .i64 0, .slice none 0 0, .bool false] 83)) w.heap.size lim.toNat (.slice none 0 0) [] false from ⟨by rw [show lim.toNat = 0 from by omega]; exact heap_new _ _, World.ownsRow_nil _ _ _ _, fun n h => absurd h List.not_mem_nil, Nat.zero_le _, by omega⟩)
    go_enter Tryd.func11, Tryd.ntmps11
    go_wp2
    go_ret
    exact ⟨rfl, HM.out, (Below.refl _ _).alloc (Nat.le_refl _) _⟩

set_option maxRecDepth 100000 in
set_option maxHeartbeats 2000000 in
theorem fitsG_any (wb lim n : Nat) (v : Value) (l : List Nat) (f : Bool) (w : World) (W : WrG w wb lim v l f) (hn : n ≤ 100000000000) :
    Calls Tryd.prog 72 #[.pointer (some ⟨wb, 0, none⟩), .int .i64 (n : Int)] w fun e w' => e = .returned (.bool (!(f || decide (lim < l.length + n)))) ∧ WrG w' wb lim v l (f || decide (lim < l.length + n)) ∧ KeptR wb v w w' := by
  obtain ⟨a, c, rfl, hc, hb⟩ := W.sl
  have c0 : w.cell? ⟨wb, 0, none⟩ = some (.int .i64 (lim : Int)) := by rw [cell_of_heap W.at_]; rfl
  have c1 : w.cell? ⟨wb, 1, none⟩ = some (.slice a l.length c) := by rw [cell_of_heap W.at_]; rfl
  have c2 : w.cell? ⟨wb, 2, none⟩ = some (.bool f) := by rw [cell_of_heap W.at_]; rfl
  have f2 := free_of_heap W.at_ 2
  have h1 := W.fit
  have h2 := W.cap
  have HW := hid W
  clear W hb
  generalize l.length = m at *
  have t1 : IntKind.i64.wrap ((lim : Int) - (m : Int)) = (lim : Int) - (m : Int) := by rw [IntKind.wrap_i64]; omega
  by_cases hf : lim < m + n
  · have hd : (lim : Int) - (m : Int) < (n : Int) := by omega
    go_enter Tryd.func72, Tryd.ntmps72
    go_wp2
    go_quiet (fail)
    have F2 : (w.drewN nq).frozen? ⟨wb, 2, none⟩ = false := f2
    have C2 : (w.drewN nq).cell? ⟨wb, 2, none⟩ = some (.bool f) := c2
    have HX := hid (show WrG (w.drewN nq) wb lim (.slice a m c) l f from ⟨HW.out.at_, HW.out.own, HW.out.lt, HW.out.fit, HW.out.cap⟩)
    have HK := hid (show KeptR wb (.slice a m c) w (w.drewN nq) from ⟨rfl, rfl, rfl, Nat.le_refl _, fun _ _ _ _ => rfl⟩)
    generalize w.drewN nq = w2 at *
    go_wp2
    go_ret
    have e : decide (lim < m + n) = true := by simpa using hf
    refine ⟨?_, ?_, ?_⟩
    · rw [e, Bool.or_true]; rfl
    · rw [e, Bool.or_true]; exact HX.out.fail
    · exact HK.out.setCell 2 _
  · have hd : ¬ ((lim : Int) - (m : Int) < (n : Int)) := by omega
    go_enter Tryd.func72, Tryd.ntmps72
    go_wp2
    go_quiet (fail)
    have C2 : (w.drewN nq).cell? ⟨wb, 2, none⟩ = some (.bool f) := c2
    have HX := hid (show WrG (w.drewN nq) wb lim (.slice a m c) l f from ⟨HW.out.at_, HW.out.own, HW.out.lt, HW.out.fit, HW.out.cap⟩)
    have HK := hid (show KeptR wb (.slice a m c) w (w.drewN nq) from ⟨rfl, rfl, rfl, Nat.le_refl _, fun _ _ _ _ => rfl⟩)
    generalize w.drewN nq = w2 at *
    go_wp2
    go_ret
    have e : decide (lim < m + n) = false := by simpa using hf
    refine ⟨?_, ?_, ?_⟩
    · rw [e, Bool.or_false]; rfl
    · rw [e, Bool.or_false]; exact HX.out
    · exact HK.out
theorem WrG.grown {w w1 w2 : World} {wb lim : Nat} {v v' : Value} {l bs : List Nat} (W : WrG w wb lim v l false) (hw1 : ∀ k, k < w.heap.size → w1.heap[k]? = w.heap[k]?) (hs1 : w.heap.size ≤ w1.heap.size) (ho : w1.os = w.os) (ht : w1.tape = w.tape) (hu : w1.output = w.output)
    (hown : w2.ownsRow (wb + 1) 5 1 v' (l.length + bs.length) (u8s (l ++ bs))) (hg : w1.grownBy w2 v.ownBlock) (hb : ∀ n ∈ bs, n < 256) (hf : l.length + bs.length ≤ lim) (hsr : SameRow w v v') :
    WrG (w2.setCell ⟨wb, 1, none⟩ v') wb lim v' (l ++ bs) false ∧ KeptR wb v w (w2.setCell ⟨wb, 1, none⟩ v') := by
  have hlt := W.lt_size
  have hne : some wb ≠ v.ownBlock := fun e => by have := (W.own.lt wb e.symm).1; omega
  have h1 : w2.heap[wb]? = _ := (hg.block wb (by omega) hne).trans ((hw1 wb hlt).trans W.at_)
  refine ⟨⟨?_, ?_, ?_, by simpa using hf, W.cap⟩, ?_⟩
  · have h := heap_setCell_same w2 wb 1 _ _ v' h1
    simpa using h
  · rw [List.length_append]
    refine ⟨hown.1, ?_⟩
    rcases hown.2 with h | ⟨g, cap, cur, h1, h2, h3, h4⟩
    · exact .inl h
    · exact .inr ⟨g, cap, cur, h1, h2, by rw [heap_setCell_other w2 _ g _ (by show g ≠ wb; omega)]; exact h3, h4⟩
  · intro n hn
    rcases List.mem_append.1 hn with h | h
    · exact W.lt n h
    · exact hb n h
  · exact KeptR.setCell ⟨hg.os.trans ho, hg.tape.trans ht, hg.output.trans hu, Nat.le_trans hs1 hg.size, fun k hk hkb hkv => (hg.block k (by omega) (fun e => hkv e.symm)).trans (hw1 k hk)⟩ 1 v'

set_option maxRecDepth 100000 in
set_option maxHeartbeats 4000000 in
theorem numberG_any (wb lim x n : Nat) (v : Value) (l : List Nat) (f : Bool) (w : World) (W : WrG w wb lim v l f) (hn : n ≤ 8) (hx : x < 18446744073709551616) (hS : l.length ≤ 99999999990) :
    Calls Tryd.prog 71 #[.pointer (some ⟨wb, 0, none⟩), .int .u64 (x : Int), .int .i64 (n : Int)] w fun e w' => e = .returned (.tuple #[]) ∧
      ∃ v', WrG w' wb lim v' (wadd lim l f (beL x n)).1 (wadd lim l f (beL x n)).2 ∧ KeptR wb v w w' ∧ SameRow w v v' := by
  have HF := hid (fitsG_any wb lim n v l f w W (by omega))
  have HE := hid (show (f || decide (lim < l.length + n)) = true → wadd lim l f (beL x n) = (l, true) from fun h => by unfold wadd; rw [beL_length, if_pos h])
  have HE2 := hid (show (f || decide (lim < l.length + n)) = false → wadd lim l f (beL x n) = (l ++ beL x n, false) from fun h => by unfold wadd; rw [beL_length, if_neg (by rw [h]; decide)])
  have HFF := hid (show (f || decide (lim < l.length + n)) = false → l.length + n ≤ lim from fun h => by
    rw [Bool.or_eq_false_iff] at h
    have h2 := h.2
    simp only [decide_eq_false_iff_not] at h2
    omega)
  have hcap := hS
  have hlen0 := W.fit
  clear W
  go_enter Tryd.func71, Tryd.ntmps71
  go_wp2_with fail
  refine HF.out.mono ?_
  clear HF
  rintro e w2 ⟨rfl, hW2, hK2⟩
  generalize hb : (f || decide (lim < l.length + n)) = b at *
  clear hb
  have HW2 := hid hW2
  have HK2 := hid hK2
  clear hW2 hK2
  cases b with
  | true =>
    have h1 := HE.out rfl
    have HE3 := hid h1
    clear h1
    go_wp2
    refine bodyPost_ret (results_none rfl _ _ _) rfl ?_
    refine ⟨rfl, v, ?_, HK2.out, SameRow.refl _ _⟩
    rw [HE3.out]
    exact HW2.out
  | false =>
    have h1 := HE2.out rfl
    have hfit := HFF.out rfl
    have HE3 := hid h1
    clear h1 HE HE2 HFF
    go_wp2
    go_loopw [12] (fun iv wr => ∃ (i : Nat) (v' : Value), i ≤ n ∧ iv = .int .i64 i ∧ Hid (WrG wr wb lim v' (l ++ beTo x n i) false) ∧ Hid (KeptR wb v w wr) ∧ Hid (SameRow w v v')) (fun iv _ => n - (intOf iv).toNat)
    case atStart => exact ⟨0, v, by omega, rfl, hid (by simpa [beTo] using HW2.out), HK2, hid (SameRow.refl _ _)⟩
    case round =>
      clear HW2 HK2
      obtain ⟨i, v', hi, rfl, HW, HK, HS⟩ := hrel
      by_cases hin : i < n
      · have hI : (i : Int) < (n : Int) := by omega
        obtain ⟨sh, hsh⟩ : ∃ sh, sh = 8 * (n - 1 - i) := ⟨_, rfl⟩
        have hs56 : sh ≤ 56 := by omega
        have t1 : IntKind.i64.wrap ((n : Int) - 1) = (n : Int) - 1 := by rw [IntKind.wrap_i64]; omega
        have t2 : IntKind.i64.wrap ((n : Int) - 1 - (i : Int)) = (n : Int) - 1 - (i : Int) := by rw [IntKind.wrap_i64]; omega
        have t3 : IntKind.i64.wrap (8 * ((n : Int) - 1 - (i : Int))) = (sh : Int) := by rw [IntKind.wrap_i64]; omega
        have t4 : 8 * ((n : Int) - 1 - (i : Int)) = (sh : Int) := by omega
        have t5 : (0 : Int) ≤ (sh : Int) := by omega
        have t6 : (sh : Int) ≤ 64 := by omega
        obtain ⟨y, hy⟩ : ∃ y, y = beB x n i := ⟨_, rfl⟩
        have hyl : y < 256 := by rw [hy]; exact Nat.mod_lt _ (by decide)
        have t10 : IntKind.i64.wrap (sh : Int) = (sh : Int) := by rw [IntKind.wrap_i64]; omega
        have hy2 : y = x / 2 ^ sh % 256 := by rw [hy, beB, ← hsh]
        have t9 : IntKind.u8.wrap ((x : Int) / 2 ^ sh) = (y : Int) := by
          have e : (x : Int) / 2 ^ sh = ((x / 2 ^ sh : Nat) : Int) := by norm_cast
          rw [e, IntKind.wrap_u8, hy2]
          omega
        obtain ⟨a, c, rfl, hc, hbs⟩ := HW.out.sl
        have hlt := HW.out.lt_size
        have c1 : wr.cell? ⟨wb, 1, none⟩ = some (.slice a (l ++ beTo x n i).length c) := by rw [cell_of_heap HW.out.at_]; rfl
        have f1 : wr.frozen? ⟨wb, 1, none⟩ = false := free_of_heap HW.out.at_ 1
        have hml : (l ++ beTo x n i).length = l.length + i := by rw [List.length_append, beTo_length]
        have HML := hid hml
        have HSU := hid (fun (_ : Unit) => (show (l ++ beTo x n i) ++ [y] = l ++ beTo x n (i + 1) from by rw [beTo_succ, hy, List.append_assoc]))
        have HOW := hid HW.out.own
        have HP := hid (show ∀ w' : World, w'.heap[wb]? = wr.heap[wb]? → w'.cell? ⟨wb, 1, none⟩ = some (.slice a (l ++ beTo x n i).length c) ∧ w'.frozen? ⟨wb, 1, none⟩ = false from fun w' h => ⟨by rw [World.cell?_of_block (a := ⟨wb, 1, none⟩) h]; exact c1, by rw [World.frozen?_of_block (a := ⟨wb, 1, none⟩) h]; exact f1⟩)
        have hy1 : ∀ z ∈ [y], z < 256 := fun z hz => by rw [List.mem_singleton.1 hz]; exact hyl
        have HY := hid hy1
        have HAR := hid (show some wb ≠ (Value.slice a (l ++ beTo x n i).length c).ownBlock from fun e => by have := (HW.out.own.lt wb e.symm).1; omega)
        have HFT := hid (show (l ++ beTo x n i).length + [y].length ≤ lim from by rw [hml]; show l.length + i + 1 ≤ lim; omega)
        have HNN := hid (show (l ++ beTo x n i).length + 1 ≤ 461168601842 from by rw [hml]; omega)
        clear hy hml hsh hbs hy1 hc hy2
        generalize l ++ beTo x n i = m at *
        generalize hk : m.length = k at *
        have HKK := hid hk
        clear hk
        go_wp2
        go_region_law
          (first
            | (refine step_own_lies (by rfl) (.tmp 19) (.tmp 28) (by rfl) (wb + 1) k (.slice a k c) m (by rfl) (by exact HOW.out.alloc _) wr.heap.size 0 1 1 [y] (by rfl) (Own.bs (l := [y]) (by exact heap_new _ _) HY.out 1) (by decide) HNN.out (by simp; omega) ?_
               intro g5 c5 w5 hown5 hg5 hat5 hlt5
               have hk5 := HP.out w5 ((hg5.block wb (by simp; omega) HAR.out).trans (by exact heap_alloc_old _ _ hlt))
               have k51 := hk5.1
               have k52 := hk5.2
               clear hk5))
        all_goals
          have hsr : SameRow wr (.slice a k c) (.slice (some ⟨g5, 0, none⟩) (k + 1) c5) := fun q hq => by
            simp only [Value.ownBlock, Option.some.injEq] at hq
            subst hq
            rcases hat5 with h | h
            · exact .inl h
            · exact .inr (by rw [h]; simp)
          have hG := HW.out.grown (v' := .slice (some ⟨g5, 0, none⟩) (k + 1) c5) (bs := [y]) (by intro q hq; exact heap_alloc_old _ _ hq) (by simp) (by rfl) (by rfl) (by rfl) (by rw [HKK.out]; exact hown5) hg5 HY.out (by rw [HKK.out]; exact HFT.out) hsr
          rw [HSU.out ()] at hG
          have HW6 := hid hG.1
          have HK6 := hid (HK.out.trans HS.out hG.2)
          have HS6 := hid (HS.out.trans HK.out.size hsr)
          clear hG hsr hown5 hg5 hat5 hlt5
          go_wp2
          exact ⟨⟨i + 1, _, by omega, by go_num, HW6, HK6, HS6⟩, by simp [intOf]; omega⟩
      · obtain rfl : i = n := by omega
        go_wp2
        go_end0
        refine ⟨rfl, v', ?_, HK.out, HS.out⟩
        rw [HE3.out]
        exact HW.out
def AddedG (wb lim : Nat) (v : Value) (l : List Nat) (f : Bool) (bs : List Nat) (w w' : World) : Prop := ∃ v', WrG w' wb lim v' (wadd lim l f bs).1 (wadd lim l f bs).2 ∧ KeptR wb v w w' ∧ SameRow w v v'

set_option maxRecDepth 100000 in
theorem U8G_any (wb lim x : Nat) (v : Value) (l : List Nat) (f : Bool) (w : World) (W : WrG w wb lim v l f) (hx : x < 2 ^ 8) (hS : l.length ≤ 99999999990) :
    Calls Tryd.prog 43 #[.pointer (some ⟨wb, 0, none⟩), .int .u8 (x : Int)] w fun e w' => e = .returned (.tuple #[]) ∧ AddedG wb lim v l f (beL x 1) w w' := by
  have HN := hid (numberG_any wb lim x 1 v l f w W (by omega) (Nat.lt_of_lt_of_le hx (by decide)) hS)
  have h0 : IntKind.u64.wrap (x : Int) = (x : Int) := by rw [IntKind.wrap_u64]; omega
  clear W
  go_enter Tryd.func43, Tryd.ntmps43
  go_wp2_with fail
  refine HN.out.mono ?_
  rintro e w2 ⟨rfl, h⟩
  go_wp2
  go_end0
  exact ⟨rfl, h⟩

set_option maxRecDepth 100000 in
theorem U16G_any (wb lim x : Nat) (v : Value) (l : List Nat) (f : Bool) (w : World) (W : WrG w wb lim v l f) (hx : x < 2 ^ 16) (hS : l.length ≤ 99999999990) :
    Calls Tryd.prog 44 #[.pointer (some ⟨wb, 0, none⟩), .int .u16 (x : Int)] w fun e w' => e = .returned (.tuple #[]) ∧ AddedG wb lim v l f (beL x 2) w w' := by
  have HN := hid (numberG_any wb lim x 2 v l f w W (by omega) (Nat.lt_of_lt_of_le hx (by decide)) hS)
  have h0 : IntKind.u64.wrap (x : Int) = (x : Int) := by rw [IntKind.wrap_u64]; omega
  clear W
  go_enter Tryd.func44, Tryd.ntmps44
  go_wp2_with fail
  refine HN.out.mono ?_
  rintro e w2 ⟨rfl, h⟩
  go_wp2
  go_end0
  exact ⟨rfl, h⟩

set_option maxRecDepth 100000 in
theorem U32G_any (wb lim x : Nat) (v : Value) (l : List Nat) (f : Bool) (w : World) (W : WrG w wb lim v l f) (hx : x < 2 ^ 32) (hS : l.length ≤ 99999999990) :
    Calls Tryd.prog 45 #[.pointer (some ⟨wb, 0, none⟩), .int .u32 (x : Int)] w fun e w' => e = .returned (.tuple #[]) ∧ AddedG wb lim v l f (beL x 4) w w' := by
  have HN := hid (numberG_any wb lim x 4 v l f w W (by omega) (Nat.lt_of_lt_of_le hx (by decide)) hS)
  have h0 : IntKind.u64.wrap (x : Int) = (x : Int) := by rw [IntKind.wrap_u64]; omega
  clear W
  go_enter Tryd.func45, Tryd.ntmps45
  go_wp2_with fail
  refine HN.out.mono ?_
  rintro e w2 ⟨rfl, h⟩
  go_wp2
  go_end0
  exact ⟨rfl, h⟩

set_option maxRecDepth 100000 in
theorem U64G_any (wb lim x : Nat) (v : Value) (l : List Nat) (f : Bool) (w : World) (W : WrG w wb lim v l f) (hx : x < 2 ^ 64) (hS : l.length ≤ 99999999990) :
    Calls Tryd.prog 46 #[.pointer (some ⟨wb, 0, none⟩), .int .u64 (x : Int)] w fun e w' => e = .returned (.tuple #[]) ∧ AddedG wb lim v l f (beL x 8) w w' := by
  have HN := hid (numberG_any wb lim x 8 v l f w W (by omega) (Nat.lt_of_lt_of_le hx (by decide)) hS)
  have h0 : IntKind.u64.wrap (x : Int) = (x : Int) := by rw [IntKind.wrap_u64]; omega
  clear W
  go_enter Tryd.func46, Tryd.ntmps46
  go_wp2_with fail
  refine HN.out.mono ?_
  rintro e w2 ⟨rfl, h⟩
  go_wp2
  go_end0
  exact ⟨rfl, h⟩
set_option maxRecDepth 100000 in
set_option maxHeartbeats 2000000 in
theorem RawG_any (wb lim n c : Nat) (a : Option Addr) (v : Value) (l bs : List Nat) (f : Bool) (w : World) (W : WrG w wb lim v l f) (hb : Bs w (.slice a n c) bs) (hnil : a = none → c = 0) (hn : n ≤ 100000000000) (hS : l.length ≤ 99999999999) (ho : ∀ ad, a = some ad → 0 < n → ad.block ≠ wb ∧ v.ownBlock ≠ some ad.block) :
    Calls Tryd.prog 47 #[.pointer (some ⟨wb, 0, none⟩), .slice a n c] w fun e w' => e = .returned (.tuple #[]) ∧ AddedG wb lim v l f bs w w' := by
  have HF := hid (fitsG_any wb lim n v l f w W hn)
  have hlen := hb.len
  have HE := hid (show (f || decide (lim < l.length + n)) = true → wadd lim l f bs = (l, true) from fun h => by unfold wadd; rw [← hlen, if_pos h])
  have HE2 := hid (show (f || decide (lim < l.length + n)) = false → wadd lim l f bs = (l ++ bs, false) from fun h => by unfold wadd; rw [← hlen, if_neg (by rw [h]; decide)])
  have HFF := hid (show (f || decide (lim < l.length + n)) = false → l.length + n ≤ lim ∧ f = false from fun h => by
    rw [Bool.or_eq_false_iff] at h
    have h2 := h.2
    simp only [decide_eq_false_iff_not] at h2
    exact ⟨by omega, h.1⟩)
  have hcap := hS
  have HB := hid hb
  have HLEN := hid hlen
  have HO := hid ho
  have HNIL := hid hnil
  have HW := hid W
  clear hb hlen W ho hnil
  go_enter Tryd.func47, Tryd.ntmps47
  go_wp2_with fail
  refine HF.out.mono ?_
  clear HF
  rintro e w2 ⟨rfl, hW2, hK2⟩
  generalize hb : (f || decide (lim < l.length + n)) = b at *
  clear hb
  have HW2 := hid hW2
  have HK2 := hid hK2
  clear hW2 hK2
  cases b with
  | true =>
    have HE3 := hid (HE.out rfl)
    go_wp2
    go_end0
    refine ⟨rfl, v, ?_, HK2.out, SameRow.refl _ _⟩
    rw [HE3.out]
    exact HW2.out
  | false =>
    have hfit := (HFF.out rfl).1
    have HE3 := hid (HE2.out rfl)
    have hlt := HW2.out.lt_size
    have c1 : w2.cell? ⟨wb, 1, none⟩ = some v := by rw [cell_of_heap HW2.out.at_]; rfl
    have HP := hid (show ∀ w' : World, w'.heap[wb]? = w2.heap[wb]? → w'.cell? ⟨wb, 1, none⟩ = some v ∧ w'.frozen? ⟨wb, 1, none⟩ = false from fun w' h => ⟨by rw [World.cell?_of_block (a := ⟨wb, 1, none⟩) h]; exact c1, by rw [World.frozen?_of_block (a := ⟨wb, 1, none⟩) h]; exact free_of_heap HW2.out.at_ 1⟩)
    have HAR := hid (show some wb ≠ v.ownBlock from fun e => by have := (HW2.out.own.lt wb e.symm).1; omega)
    have HB2 := hid (HB.out.keptR HK2.out HO.out)
    have HFA := hid ((HFF.out rfl).2)
    have HSZ := hid (show l.length + n ≤ 461168601842 from by omega)
    have HWA := hid (show WrG w2 wb lim v l false from HW2.out)
    have HFT := hid (show l.length + bs.length ≤ lim from by rw [← HLEN.out]; exact hfit)
    have hsz : wb + 1 ≤ w2.heap.size := hlt
    have HALL := hid (show ∀ z ∈ l ++ bs, z < 256 from fun z hz => by
      rcases List.mem_append.1 hz with h | h
      · exact HW2.out.lt z h
      · obtain ⟨_, _, _, h2, _⟩ := HB2.out
        exact h2 z h)
    clear HE HE2 HFF hfit
    go_wp2_with (refine wpList_raw (by rfl) (.tmp 12) (.tmp 13) (by rfl) (wb + 1) l.length v l (by rfl) HWA.out.own a n c bs (by rfl) HB2.out HNIL.out HSZ.out hsz ?_
                 intro v5 w5 hown5 hg5 hsr5
                 obtain ⟨a5, c5, e5, -, -, -, -⟩ := bs_of_owns hown5 HALL.out
                 subst e5
                 have hk5 := HP.out w5 (hg5.block wb hlt HAR.out)
                 have k51 := hk5.1
                 have k52 := hk5.2
                 clear hk5)
    have hG := HWA.out.grown (bs := bs) (by intro q hq; rfl) (Nat.le_refl _) (by rfl) (by rfl) (by rfl) (by rw [← HLEN.out]; exact hown5) hg5 (by obtain ⟨_, _, _, h, _⟩ := HB2.out; exact h) HFT.out hsr5
    go_end0
    refine ⟨rfl, _, ?_, HK2.out.trans (SameRow.refl _ _) hG.2, (SameRow.refl w v).trans HK2.out.size hsr5⟩
    rw [HE3.out]
    exact hG.1
def BytesResG (f : Bool) (n : Nat) (l : List Nat) (w : World) (e : Ending) (w' : World) : Prop :=
  (f = true → e = .returned (.tuple #[.slice none 0 0, .int .i64 3]) ∧ w = w') ∧ (f = false → ∃ u, e = .returned (.tuple #[u, .int .i64 0]) ∧ Copied2 w n l u w')

set_option maxRecDepth 100000 in
set_option maxHeartbeats 2000000 in
theorem BytesG_any (wb lim : Nat) (v : Value) (l : List Nat) (f : Bool) (w : World) (W : WrG w wb lim v l f) (hS : l.length ≤ 100000000000) :
    Calls Tryd.prog 14 #[.pointer (some ⟨wb, 0, none⟩)] w fun e w' => BytesResG f l.length l w e w' := by
  have c2 : w.cell? ⟨wb, 2, none⟩ = some (.bool f) := by rw [cell_of_heap W.at_]; rfl
  have c1 : w.cell? ⟨wb, 1, none⟩ = some v := by rw [cell_of_heap W.at_]; rfl
  obtain ⟨a, c, rfl, hc, hb⟩ := W.sl
  have hnil : a = none → c = 0 := fun e => by
    rcases W.own.2 with ⟨h, _⟩ | ⟨g, cap, cur, h, _⟩
    · simp only [Value.slice.injEq] at h; exact h.2.2
    · simp only [Value.slice.injEq] at h; rw [e] at h; cases h.1
  have HC := hid (Clone2_any a l.length c l w hb hnil hS)
  clear hb hnil hc W
  cases f with
  | true =>
    go_enter Tryd.func14, Tryd.ntmps14
    go_wp2
    go_ret2
    exact ⟨fun _ => ⟨rfl, rfl⟩, fun h => by cases h⟩
  | false =>
    generalize hm : l.length = m at *
    have HM := hid (fun (_ : Unit) => hm)
    clear hm
    go_enter Tryd.func14, Tryd.ntmps14
    go_wp2_with fail
    refine HC.out.mono ?_
    rintro e w2 ⟨u, rfl, h⟩
    go_wp2
    go_ret2
    exact ⟨fun h => (by cases h), fun _ => ⟨u, rfl, h⟩⟩
set_option maxRecDepth 100000 in
set_option maxHeartbeats 2000000 in
theorem TextG_any (wb lim n c : Nat) (a : Option Addr) (v : Value) (l bs : List Nat) (f : Bool) (w : World) (W : WrG w wb lim v l f) (hb : Bs w (.slice a n c) bs) (hnil : a = none → c = 0) (hn : n ≤ 10000000000) (hS : l.length ≤ 99999999990) (ho : ∀ ad, a = some ad → 0 < n → ad.block ≠ wb ∧ v.ownBlock ≠ some ad.block) :
    Calls Tryd.prog 48 #[.pointer (some ⟨wb, 0, none⟩), .slice a n c] w fun e w' => e = .returned (.tuple #[]) ∧ ∃ v', WrG w' wb lim v' (wtext lim l f bs).1 (wtext lim l f bs).2 ∧ KeptR wb v w w' ∧ SameRow w v v' := by
  have hlen := hb.len
  have f2 : w.frozen? ⟨wb, 2, none⟩ = false := free_of_heap W.at_ 2
  have c2 : w.cell? ⟨wb, 2, none⟩ = some (.bool f) := by rw [cell_of_heap W.at_]; rfl
  have HB := hid hb
  have HLEN := hid hlen
  have HO := hid ho
  have HNIL := hid hnil
  have t1 : IntKind.i64.wrap (2 + (n : Int)) = 2 + (n : Int) := by rw [IntKind.wrap_i64]; omega
  have HBL := hid (beL_length bs.length 2)
  have HLTW := hid W.lt_size
  by_cases hbig : 65535 < n
  · have hI : 65535 < (n : Int) := by omega
    have HE := hid (show wtext lim l f bs = (l, true) from by unfold wtext; rw [← hlen, decide_eq_true hbig, Bool.or_true]; exact wadd_failed _ _ _)
    have W2 := W.fail
    have HW := hid W
    have HK := hid (show KeptR wb v w (w.setCell ⟨wb, 2, none⟩ (.bool true)) from (KeptR.refl wb v w).setCell 2 _)
    have HF := hid (fitsG_any wb lim (2 + n) v l true _ W2 (by omega))
    clear hb hlen ho hnil W W2
    have t2 : (2 : Int) + (n : Int) = ((2 + n : Nat) : Int) := by omega
    obtain ⟨n2, hn2⟩ : ∃ x, x = 2 + n := ⟨_, rfl⟩
    rw [← hn2] at t2 HF
    clear hn2
    go_enter Tryd.func48, Tryd.ntmps48
    go_wp2_with fail
    refine HF.out.mono ?_
    rintro e w3 ⟨rfl, hW3, hK3⟩
    have HW3 := hid hW3
    have HK3 := hid (HK.out.trans (SameRow.refl _ _) hK3)
    clear hW3 hK3
    rw [Bool.true_or] at HW3 ⊢
    go_wp2
    go_end0
    refine ⟨rfl, v, ?_, HK3.out, SameRow.refl _ _⟩
    rw [HE.out]
    exact HW3.out
  have hI : ¬ 65535 < (n : Int) := by omega
  have HF := hid (fitsG_any wb lim (2 + n) v l f _ W (by omega))
  have HE := hid (show (f || decide (lim < l.length + (2 + n))) = true → wtext lim l f bs = (l, true) from fun h => by
    unfold wtext
    rw [← hlen, decide_eq_false hbig, Bool.or_false]
    unfold wadd
    rw [List.length_append, beL_length, ← hlen, if_pos h])
  have HE2 := hid (show (f || decide (lim < l.length + (2 + n))) = false → f = false ∧ l.length + (2 + n) ≤ lim ∧ wtext lim l f bs = (l ++ (beL bs.length 2 ++ bs), false) from fun h => by
    rw [Bool.or_eq_false_iff] at h
    have h2 := h.2
    simp only [decide_eq_false_iff_not] at h2
    have h3 := h.1
    subst h3
    refine ⟨rfl, by omega, ?_⟩
    unfold wtext
    rw [← hlen, decide_eq_false hbig, Bool.or_false]
    exact wadd_fits _ _ _ (by rw [List.length_append, beL_length, ← hlen]; omega))
  have hsz := W.fit
  have hcap := hS
  clear hb hlen ho hnil W
  have t2 : (2 : Int) + (n : Int) = ((2 + n : Nat) : Int) := by omega
  obtain ⟨n2, hn2⟩ : ∃ x, x = 2 + n := ⟨_, rfl⟩
  have HN2 := hid hn2
  rw [← hn2] at t2 HF HE HE2
  clear hn2
  have t3 : IntKind.u16.wrap (n : Int) = (n : Int) := by rw [IntKind.wrap_u16]; omega
  go_enter Tryd.func48, Tryd.ntmps48
  go_wp2_with fail
  refine HF.out.mono ?_
  clear HF
  rintro e w3 ⟨rfl, hW3, hK3⟩
  have HW3 := hid hW3
  have HK3 := hid hK3
  clear hW3 hK3
  generalize hbb : (f || decide (lim < l.length + n2)) = b at *
  clear hbb
  cases b with
  | true =>
    have HE3 := hid (HE.out rfl)
    go_wp2
    go_end0
    refine ⟨rfl, v, ?_, HK3.out, SameRow.refl _ _⟩
    rw [HE3.out]
    exact HW3.out
  | false =>
    obtain ⟨hf, hfit, hE⟩ := HE2.out rfl
    subst hf
    have HE3 := hid hE
    have HFIT := hid hfit
    clear hE hfit
    have HU := hid (U16G_any wb lim n v l false w3 HW3.out (by omega) hcap)
    go_wp2_with fail
    refine HU.out.mono ?_
    clear HU
    rintro e w4 ⟨rfl, v4, hW4, hK4, hS4⟩
    have HW4 := hid hW4
    have HK4 := hid (HK3.out.trans (SameRow.refl _ _) hK4)
    have HS4 := hid ((SameRow.refl w v).trans HK3.out.size hS4)
    clear hW4 hK4 hS4
    have HB4 := hid (HB.out.keptR HK4.out HO.out)
    have hfr : ∀ ad, a = some ad → 0 < n → ad.block ≠ wb ∧ v4.ownBlock ≠ some ad.block := fun ad e h0 => by
      obtain ⟨h1, h2⟩ := HO.out ad e h0
      refine ⟨h1, HS4.out.own _ ?_ h2⟩
      rcases HB.out.addr with ⟨h3, _⟩ | ⟨_, b, o, c', hv⟩
      · have h4 := HLEN.out; rw [h3] at h4; simp at h4; omega
      · simp only [Value.slice.injEq] at hv
        obtain ⟨rfl, _, _⟩ := hv
        cases e
        exact World.block_lt_of_cell? _ _ (HB.out.cell 0 (by rw [← HLEN.out]; exact h0))
    have HR := hid (RawG_any wb lim n c a v4 _ bs _ w4 HW4.out HB4.out HNIL.out (by omega) (by rw [wadd_fits _ _ _ (by rw [beL_length]; have h1 := HFIT.out; have h2 := HN2.out; omega), List.length_append, beL_length]; omega) hfr)
    clear hfr
    go_wp2_with fail
    refine HR.out.mono ?_
    clear HR
    rintro e w5 ⟨rfl, v5, hW5, hK5, hS5⟩
    have HW5 := hid hW5
    have HK5 := hid (HK4.out.trans HS4.out hK5)
    have HS5 := hid (HS4.out.trans HK4.out.size hS5)
    clear hW5 hK5 hS5
    go_wp2
    go_end0
    refine ⟨rfl, v5, ?_, HK5.out, HS5.out⟩
    have h := HW5.out
    rw [← HLEN.out] at HE3
    rw [wadd_two lim l (beL n 2) bs (by have h1 := HFIT.out; have h2 := HN2.out; have h3 := HLEN.out; rw [beL_length]; omega)] at h
    rw [HE3.out]
    exact h
def WroteG (wb lim : Nat) (v : Value) (r : List Nat × Bool) (w w' : World) : Prop := ∃ v', WrG w' wb lim v' r.1 r.2 ∧ KeptR wb v w w' ∧ SameRow w v v'
theorem WrG.alloc {w : World} {wb lim : Nat} {v : Value} {l : List Nat} {f : Bool} (W : WrG w wb lim v l f) (o : Obj) : WrG (w.alloc o) wb lim v l f :=
  ⟨by rw [heap_alloc_old _ _ W.lt_size]; exact W.at_, W.own.alloc _, W.lt, W.fit, W.cap⟩
theorem WrG.belowO {w w' : World} {wb lim : Nat} {v : Value} {l : List Nat} {f : Bool} (W : WrG w wb lim v l f) (h : Below w.heap.size w w') : WrG w' wb lim v l f :=
  ⟨(h.block _ W.lt_size).trans W.at_, ⟨W.own.1, by
    rcases W.own.2 with h2 | ⟨q, cap, cur, h1, h2, h3, h4⟩
    · exact .inl h2
    · exact .inr ⟨q, cap, cur, h1, h2, (h.block q (lt_of_heap h3)).trans h3, h4⟩⟩, W.lt, W.fit, W.cap⟩
set_option maxRecDepth 100000 in
set_option maxHeartbeats 4000000 in
theorem writeG_any (wb lim x n c : Nat) (k nn : Int) (a : Option Addr) (v : Value) (l bs : List Nat) (f : Bool) (w : World) (W : WrG w wb lim v l f) (hx : x < 18446744073709551616) (hb : Bs w (.slice a n c) bs) (hnil : a = none → c = 0) (hn : n ≤ 1000000000) (hS : l.length ≤ 99999999990) :
    Calls Tryd.prog 12 #[.pointer (some ⟨wb, 0, none⟩), .agg #[.int .i64 k, .int .u64 (x : Int), .int .i64 nn, .slice a n c]] w fun e w' => e = .returned (.tuple #[]) ∧ WroteG wb lim v (wop lim l f k x bs) w w' := by
  have HS := hid hS
  clear hS
  obtain ⟨w1, hw1⟩ : ∃ y, y = w.alloc (.cells #[.int .i64 k, .int .u64 (x : Int), .int .i64 nn, .slice a n c] 33) := ⟨_, rfl⟩
  obtain ⟨c0, c1, c2, c3⟩ := ocells w k x nn a n c
  rw [← hw1] at c0 c1 c2 c3
  have HW1 := hid (show WrG w1 wb lim v l f from by rw [hw1]; exact W.alloc _)
  have HK1 := hid (show KeptR wb v w w1 from by rw [hw1]; exact (KeptR.refl wb v w).alloc _)
  have HB1 := hid (show Bs w1 (.slice a n c) bs from by rw [hw1]; exact hb.alloc _)
  have HNIL := hid hnil
  have hsz1 : w1.heap.size = w.heap.size + 1 := by rw [hw1]; simp
  have hszl : w.heap.size < w1.heap.size := by omega
  have HSZ1 := hid hsz1
  clear hsz1
  have hwl := W.lt_size
  have HOW := hid (fun k (h : v.ownBlock = some k) => (W.own.lt k h).2)
  clear W hb hnil
  have hx8 : IntKind.u8.wrap (x : Int) = ((x % 256 : Nat) : Int) := by rw [IntKind.wrap_u8]; omega
  have hx16 : IntKind.u16.wrap (x : Int) = ((x % 65536 : Nat) : Int) := by rw [IntKind.wrap_u16]; omega
  have hx32 : IntKind.u32.wrap (x : Int) = ((x % 4294967296 : Nat) : Int) := by rw [IntKind.wrap_u32]; omega
  by_cases h1 : k = 1
  · subst h1
    have HQ := hid (U8G_any wb lim (x % 256) v l f w1 HW1.out (by omega) HS.out)
    have HR := hid (show wop lim l f 1 x bs = wadd lim l f (beL (x % 256) 1) from rfl)
    obtain ⟨y, hy⟩ : ∃ y, y = x % 256 := ⟨_, rfl⟩
    rw [← hy] at HQ HR hx8
    clear hy
    go_enter Tryd.func12, Tryd.ntmps12
    go_upto_region 1 with fail
    change Code.wp _ _ _ _ (w.alloc (.cells #[.int .i64 1, .int .u64 (x : Int), .int .i64 nn, .slice a n c] 33))
    rw [← hw1]
    clear hw1
    go_wp2_with fail
    refine HQ.out.mono ?_
    clear HQ
    rintro e w2 ⟨rfl, v2, h2, k2, s2⟩
    have HZ := hid (show WroteG wb lim v (wop lim l f 1 x bs) w w2 from by rw [HR.out]; exact ⟨v2, h2, HK1.out.trans (SameRow.refl _ _) k2, fun q hq => (s2 q hq).imp_right fun h => by have hsz1 := HSZ1.out; omega⟩)
    clear h2 k2 s2
    go_wp2
    go_end0
    exact ⟨rfl, HZ.out⟩
  by_cases h2 : k = 2
  · subst h2
    have HQ := hid (U16G_any wb lim (x % 65536) v l f w1 HW1.out (by omega) HS.out)
    have HR := hid (show wop lim l f 2 x bs = wadd lim l f (beL (x % 65536) 2) from rfl)
    obtain ⟨y, hy⟩ : ∃ y, y = x % 65536 := ⟨_, rfl⟩
    rw [← hy] at HQ HR hx16
    clear hy
    go_enter Tryd.func12, Tryd.ntmps12
    go_upto_region 1 with fail
    change Code.wp _ _ _ _ (w.alloc (.cells #[.int .i64 2, .int .u64 (x : Int), .int .i64 nn, .slice a n c] 33))
    rw [← hw1]
    clear hw1
    go_wp2_with fail
    refine HQ.out.mono ?_
    clear HQ
    rintro e w2 ⟨rfl, v2, h2, k2, s2⟩
    have HZ := hid (show WroteG wb lim v (wop lim l f 2 x bs) w w2 from by rw [HR.out]; exact ⟨v2, h2, HK1.out.trans (SameRow.refl _ _) k2, fun q hq => (s2 q hq).imp_right fun h => by have hsz1 := HSZ1.out; omega⟩)
    clear h2 k2 s2
    go_wp2
    go_end0
    exact ⟨rfl, HZ.out⟩
  by_cases h3 : k = 3
  · subst h3
    have HQ := hid (U32G_any wb lim (x % 4294967296) v l f w1 HW1.out (by omega) HS.out)
    have HR := hid (show wop lim l f 3 x bs = wadd lim l f (beL (x % 4294967296) 4) from rfl)
    obtain ⟨y, hy⟩ : ∃ y, y = x % 4294967296 := ⟨_, rfl⟩
    rw [← hy] at HQ HR hx32
    clear hy
    go_enter Tryd.func12, Tryd.ntmps12
    go_upto_region 1 with fail
    change Code.wp _ _ _ _ (w.alloc (.cells #[.int .i64 3, .int .u64 (x : Int), .int .i64 nn, .slice a n c] 33))
    rw [← hw1]
    clear hw1
    go_wp2_with fail
    refine HQ.out.mono ?_
    clear HQ
    rintro e w2 ⟨rfl, v2, h2, k2, s2⟩
    have HZ := hid (show WroteG wb lim v (wop lim l f 3 x bs) w w2 from by rw [HR.out]; exact ⟨v2, h2, HK1.out.trans (SameRow.refl _ _) k2, fun q hq => (s2 q hq).imp_right fun h => by have hsz1 := HSZ1.out; omega⟩)
    clear h2 k2 s2
    go_wp2
    go_end0
    exact ⟨rfl, HZ.out⟩
  by_cases h4 : k = 4
  · subst h4
    have HQ := hid (U64G_any wb lim (x) v l f w1 HW1.out (by omega) HS.out)
    have HR := hid (show wop lim l f 4 x bs = wadd lim l f (beL (x) 8) from rfl)
    go_enter Tryd.func12, Tryd.ntmps12
    go_upto_region 1 with fail
    change Code.wp _ _ _ _ (w.alloc (.cells #[.int .i64 4, .int .u64 (x : Int), .int .i64 nn, .slice a n c] 33))
    rw [← hw1]
    clear hw1
    go_wp2_with fail
    refine HQ.out.mono ?_
    clear HQ
    rintro e w2 ⟨rfl, v2, h2, k2, s2⟩
    have HZ := hid (show WroteG wb lim v (wop lim l f 4 x bs) w w2 from by rw [HR.out]; exact ⟨v2, h2, HK1.out.trans (SameRow.refl _ _) k2, fun q hq => (s2 q hq).imp_right fun h => by have hsz1 := HSZ1.out; omega⟩)
    clear h2 k2 s2
    go_wp2
    go_end0
    exact ⟨rfl, HZ.out⟩
  by_cases h5 : k = 5
  · subst h5
    have HR := hid (show wop lim l f 5 x bs = wadd lim l f bs from rfl)
    have HB2 := hid (hid (HB1.out.alloc (.cells #[] 5)))
    go_enter Tryd.func12, Tryd.ntmps12
    go_upto_region 1 with fail
    change Code.wp _ _ _ _ (w.alloc (.cells #[.int .i64 5, .int .u64 (x : Int), .int .i64 nn, .slice a n c] 33))
    rw [← hw1]
    clear hw1
    go_wp2_with (refine wpList_cloneB (by rfl) (.tmp 36) (.tmp 38) (by rfl) w1.heap.size (by rfl) (heap_new _ _) a n c bs (by rfl) HB2.out.out HNIL.out (by omega) ?_
                 intro a5 c5 w5 hb5 hc5 hw5 hn5 hk5 hown5)
    have HB5 := hid (show Below w1.heap.size w1 w5 from ((Below.refl _ _).alloc (Nat.le_refl _) _).trans (hk5.below (by simp) (Nat.le_refl _)))
    have HW5 := hid (HW1.out.belowO HB5.out)
    have HK5 := hid (HK1.out.trans (SameRow.refl _ _) (KeptR.of_below HB5.out))
    have HQ := hid (RawG_any wb lim n c5 a5 v l bs f w5 HW5.out hb5 hn5 (by omega) (by have h := HS.out; omega) (fun ad e h0 => by
      have h9 := (hw5 ad e).1
      have hsz1 := HSZ1.out
      refine ⟨by omega, fun e2 => ?_⟩
      have h8 := HOW.out _ e2
      omega))
    clear hb5 hc5 hw5 hn5 hk5 hown5
    refine HQ.out.mono ?_
    clear HQ
    rintro e w6 ⟨rfl, v2, h2, k2, s2⟩
    have hs15 := HB5.out.size
    have HZ := hid (show WroteG wb lim v (wop lim l f 5 x bs) w w6 from by rw [HR.out]; exact ⟨v2, h2, HK5.out.trans (SameRow.refl _ _) k2, fun q hq => (s2 q hq).imp_right fun h => by have hsz1 := HSZ1.out; omega⟩)
    clear h2 k2 s2
    go_wp2
    go_end0
    exact ⟨rfl, HZ.out⟩
  by_cases h6 : k = 6
  · subst h6
    have HR := hid (show wop lim l f 6 x bs = wtext lim l f bs from rfl)
    have HB2 := hid (hid (HB1.out.alloc (.cells #[] 5)))
    go_enter Tryd.func12, Tryd.ntmps12
    go_upto_region 1 with fail
    change Code.wp _ _ _ _ (w.alloc (.cells #[.int .i64 6, .int .u64 (x : Int), .int .i64 nn, .slice a n c] 33))
    rw [← hw1]
    clear hw1
    go_wp2_with (refine wpList_cloneB (by rfl) (.tmp 44) (.tmp 46) (by rfl) w1.heap.size (by rfl) (heap_new _ _) a n c bs (by rfl) HB2.out.out HNIL.out (by omega) ?_
                 intro a5 c5 w5 hb5 hc5 hw5 hn5 hk5 hown5)
    have HB5 := hid (show Below w1.heap.size w1 w5 from ((Below.refl _ _).alloc (Nat.le_refl _) _).trans (hk5.below (by simp) (Nat.le_refl _)))
    have HW5 := hid (HW1.out.belowO HB5.out)
    have HK5 := hid (HK1.out.trans (SameRow.refl _ _) (KeptR.of_below HB5.out))
    have HQ := hid (TextG_any wb lim n c5 a5 v l bs f w5 HW5.out hb5 hn5 (by omega) HS.out (fun ad e h0 => by
      have h9 := (hw5 ad e).1
      have hsz1 := HSZ1.out
      refine ⟨by omega, fun e2 => ?_⟩
      have h8 := HOW.out _ e2
      omega))
    clear hb5 hc5 hw5 hn5 hk5 hown5
    refine HQ.out.mono ?_
    clear HQ
    rintro e w6 ⟨rfl, v2, h2, k2, s2⟩
    have hs15 := HB5.out.size
    have HZ := hid (show WroteG wb lim v (wop lim l f 6 x bs) w w6 from by rw [HR.out]; exact ⟨v2, h2, HK5.out.trans (SameRow.refl _ _) k2, fun q hq => (s2 q hq).imp_right fun h => by have hsz1 := HSZ1.out; omega⟩)
    clear h2 k2 s2
    go_wp2
    go_end0
    exact ⟨rfl, HZ.out⟩
  have HR := hid (show wop lim l f k x bs = (l, f) from by unfold wop; rw [if_neg h1, if_neg h2, if_neg h3, if_neg h4, if_neg h5, if_neg h6])
  go_enter Tryd.func12, Tryd.ntmps12
  go_upto_region 1 with fail
  change Code.wp _ _ _ _ (w.alloc (.cells #[.int .i64 k, .int .u64 (x : Int), .int .i64 nn, .slice a n c] 33))
  rw [← hw1]
  clear hw1
  have b1 : (k == 1) = false := by rw [beq_eq_false_iff_ne]; exact h1
  have b2 : (k == 2) = false := by rw [beq_eq_false_iff_ne]; exact h2
  have b3 : (k == 3) = false := by rw [beq_eq_false_iff_ne]; exact h3
  have b4 : (k == 4) = false := by rw [beq_eq_false_iff_ne]; exact h4
  have b5 : (k == 5) = false := by rw [beq_eq_false_iff_ne]; exact h5
  have b6 : (k == 6) = false := by rw [beq_eq_false_iff_ne]; exact h6
  go_wp2
  go_end0
  exact ⟨rfl, by rw [HR.out]; exact ⟨v, HW1.out, HK1.out, SameRow.refl _ _⟩⟩
set_option maxRecDepth 100000 in
theorem LenG_any (wb lim : Nat) (v : Value) (l : List Nat) (f : Bool) (w : World) (W : WrG w wb lim v l f) :
    Calls Tryd.prog 15 #[.pointer (some ⟨wb, 0, none⟩)] w fun e w' => e = .returned (.int .i64 (l.length : Int)) ∧ w = w' := by
  obtain ⟨a, c, rfl, hc, hb⟩ := W.sl
  have c1 : w.cell? ⟨wb, 1, none⟩ = some (.slice a l.length c) := by rw [cell_of_heap W.at_]; rfl
  clear W hb
  generalize l.length = m at *
  go_enter Tryd.func15, Tryd.ntmps15
  go_wp2
  go_ret
  exact ⟨rfl, rfl⟩
end Go.Proofs.YtdjnjmekdjcbaaaDoor

namespace Go.Proofs.YtdjnjmekdjcbaaaDoor
open Go Go.RowKit
set_option linter.unusedVariables false

theorem beLm_one (x : Nat) : beL (x % 256) 1 = beL x 1 := by
  show [(x % 256) / 1 % 256] = [x / 1 % 256]
  simp
theorem beLm_two (x : Nat) : beL (x % 65536) 2 = beL x 2 := by
  show [(x % 65536) / 256 % 256, (x % 65536) / 1 % 256] = [x / 256 % 256, x / 1 % 256]
  rw [show (x % 65536) / 256 % 256 = x / 256 % 256 from by omega, show (x % 65536) / 1 % 256 = x / 1 % 256 from by omega]
theorem beLm_four (x : Nat) : beL (x % 4294967296) 4 = beL x 4 := by
  show [(x % 4294967296) / 16777216 % 256, (x % 4294967296) / 65536 % 256, (x % 4294967296) / 256 % 256, (x % 4294967296) / 1 % 256] = [x / 16777216 % 256, x / 65536 % 256, x / 256 % 256, x / 1 % 256]
  rw [show (x % 4294967296) / 16777216 % 256 = x / 16777216 % 256 from by omega, show (x % 4294967296) / 65536 % 256 = x / 65536 % 256 from by omega, show (x % 4294967296) / 256 % 256 = x / 256 % 256 from by omega, show (x % 4294967296) / 1 % 256 = x / 1 % 256 from by omega]
/-- the bytes that a call adds, and whether it fails before -/
def addB (k : Int) (x : Nat) (bs : List Nat) : List Nat := if k = 5 then bs else if k = 6 then beL bs.length 2 ++ bs else beL x (wdt k).toNat
def wfl (k : Int) (f : Bool) (bs : List Nat) : Bool := f || (decide (k = 6) && decide (65535 < bs.length))
theorem wop_add (lim : Nat) (l : List Nat) (f : Bool) (k : Int) (x : Nat) (bs : List Nat) (h1 : 1 ≤ k) (h6 : k ≤ 6) : wop lim l f k x bs = wadd lim l (wfl k f bs) (addB k x bs) := by
  obtain rfl | rfl | rfl | rfl | rfl | rfl : k = 1 ∨ k = 2 ∨ k = 3 ∨ k = 4 ∨ k = 5 ∨ k = 6 := by omega
  · show wadd lim l f (beL (x % 256) 1) = wadd lim l (wfl 1 f bs) (beL x 1)
    rw [beLm_one]; simp [wfl]
  · show wadd lim l f (beL (x % 65536) 2) = wadd lim l (wfl 2 f bs) (beL x 2)
    rw [beLm_two]; simp [wfl]
  · show wadd lim l f (beL (x % 4294967296) 4) = wadd lim l (wfl 3 f bs) (beL x 4)
    rw [beLm_four]; simp [wfl]
  · show wadd lim l f (beL x 8) = wadd lim l (wfl 4 f bs) (beL x 8)
    simp [wfl]
  · show wadd lim l f bs = wadd lim l (wfl 5 f bs) bs
    simp [wfl]
  · show wadd lim l (f || decide (65535 < bs.length)) (beL bs.length 2 ++ bs) = wadd lim l (wfl 6 f bs) (beL bs.length 2 ++ bs)
    simp [wfl]

/-- what a Writer contains, as a value -/
def outV (lim : Int) (f : Bool) (a : Option Addr) (n c : Nat) : Value := .agg #[.int .i64 lim, .bool f, .slice a n c]
/-- what Wrote lays ahead: its arguments and its result; at the tail: what is to be added -/
structure WqAt (w wx : World) (lim : Int) (f : Bool) (a : Option Addr) (m c : Nat) (aa : Option Addr) (an ac : Nat) (bx : List Nat) : Prop where
  bel : Below w.heap.size w wx
  oo : wx.heap[w.heap.size]? = some (.cells #[.int .i64 lim, .bool f, .slice a m c] 29 (0, 0))
  rr : wx.heap[w.heap.size + 1 + 1]? = some (.cells #[.int .i64 0, .bool false, .slice none 0 0] 29 (0, 0))
  add : Bs wx (.slice aa an ac) bx
  nil : aa = none → ac = 0
  len : an ≤ 1000000000
/-- what Wrote answers -/
def WroTo (w : World) (a0 : Option Addr) (lim : Int) (r : List Nat × Bool) (e : Ending) (w' : World) : Prop :=
  ∃ a c, e = .returned (outV lim r.2 a r.1.length c) ∧ Bs w' (.slice a r.1.length c) r.1 ∧ r.1.length ≤ c ∧ (a = none → c = 0) ∧ Below w.heap.size w w' ∧ (∀ ad, a = some ad → ad.block < w'.heap.size) ∧ (a = a0 ∨ ∀ ad, a = some ad → w.heap.size ≤ ad.block)

theorem wq_at (w : World) (lim : Int) (f : Bool) (a ao : Option Addr) (m c n cr : Nat) (k x nn : Int) (l : List Nat) (hb : Bs w (.slice ao n cr) l) (w1 : World) (hw : w1 = ((w.alloc (.cells #[.int .i64 lim, .bool f, .slice a m c] 29)).alloc (.cells #[.int .i64 k, .int .u64 x, .int .i64 nn, .slice ao n cr] 33)).alloc (.cells #[.int .i64 0, .bool false, .slice none 0 0] 29)) :
    Below w.heap.size w w1 ∧ w1.heap[w.heap.size]? = some (.cells #[.int .i64 lim, .bool f, .slice a m c] 29 (0, 0)) ∧ w1.heap[w.heap.size + 1]? = some (.cells #[.int .i64 k, .int .u64 x, .int .i64 nn, .slice ao n cr] 33 (0, 0)) ∧
    w1.heap[w.heap.size + 1 + 1]? = some (.cells #[.int .i64 0, .bool false, .slice none 0 0] 29 (0, 0)) ∧ Bs w1 (.slice ao n cr) l ∧ w1.heap.size = w.heap.size + 1 + 1 + 1 := by
  obtain ⟨wa, hwa⟩ : ∃ q, q = w.alloc (.cells #[.int .i64 lim, .bool f, .slice a m c] 29) := ⟨_, rfl⟩
  obtain ⟨wb, hwb⟩ : ∃ q, q = wa.alloc (.cells #[.int .i64 k, .int .u64 x, .int .i64 nn, .slice ao n cr] 33) := ⟨_, rfl⟩
  have hw1 : w1 = wb.alloc (.cells #[.int .i64 0, .bool false, .slice none 0 0] 29) := by rw [hw, hwb, hwa]
  have ha : wa.heap.size = w.heap.size + 1 := by rw [hwa]; simp
  have hb2 : wb.heap.size = w.heap.size + 1 + 1 := by rw [hwb]; simp [ha]
  rw [hw1]
  refine ⟨?_, ?_, ?_, ?_, ?_, ?_⟩
  · exact (((Below.refl w.heap.size w).alloc (Nat.le_refl _) _).trans (by rw [hwb, ← hwa]; exact (Below.refl _ _).alloc (by omega) _)).alloc (by omega) _
  · rw [heap_alloc_old _ _ (by omega), hwb, heap_alloc_old _ _ (by omega), hwa]
    exact heap_new _ _
  · rw [heap_alloc_old _ _ (by omega), hwb, ← ha]
    exact heap_new _ _
  · rw [← hb2]
    exact heap_new _ _
  · rw [hwb, hwa]
    exact ((hb.alloc _).alloc _).alloc _
  · simp [hb2]

set_option maxRecDepth 100000 in
set_option maxHeartbeats 4000000 in
theorem wrote_in (k : Int) (x n cr m c lim : Nat) (nn : Int) (limit : Int) (a ao : Option Addr) (f : Bool) (l bs : List Nat) (w : World) (h1 : 1 ≤ k) (h6 : k ≤ 6) (hlim : lim = limit.toNat) (hll : limit < 9223372036854775808) (hx : x < 18446744073709551616)
    (hb : Bs w (.slice a m c) l) (hnil : a = none → c = 0) (hmc : m ≤ c) (hm : m ≤ 100000000000) (hab : ∀ ad, a = some ad → ad.block < w.heap.size) (ho : Bs w (.slice ao n cr) bs) (honil : ao = none → cr = 0) (hn : n ≤ 100000000) :
    Calls Tryd.prog 13 #[outV limit f a m c, .agg #[.int .i64 k, .int .u64 (x : Int), .int .i64 nn, .slice ao n cr]] w fun e w' => WroTo w a limit (wop lim l f k x bs) e w' := by
  rw [wop_add lim l f k x bs h1 h6]
  obtain ⟨w1, hw1⟩ : ∃ q, q = ((w.alloc (.cells #[.int .i64 limit, .bool f, .slice a m c] 29)).alloc (.cells #[.int .i64 k, .int .u64 (x : Int), .int .i64 nn, .slice ao n cr] 33)).alloc (.cells #[.int .i64 0, .bool false, .slice none 0 0] 29) := ⟨_, rfl⟩
  have HQ := hid (wq_at w limit f a ao m c n cr k (x : Int) nn bs ho w1 hw1)
  unfold outV
  go_enter Tryd.func13, Tryd.ntmps13
  go_upto_region 2 with fail
  rw [← hw1]
  clear hw1
  obtain ⟨w2, hw2⟩ : ∃ q, q = w1.alloc (.cells #[] 5) := ⟨_, rfl⟩
  have hB2 : Below w1.heap.size w1 w2 := by rw [hw2]; exact (Below.refl _ _).alloc (Nat.le_refl _) _
  rw [← hw2]
  clear hw2
  obtain ⟨q1, q2, q3, q4, q5, q6⟩ := HQ.out
  have r2 := (hB2.block w.heap.size (by omega)).trans q2
  have r3 := (hB2.block (w.heap.size + 1) (by omega)).trans q3
  have r4 := (hB2.block (w.heap.size + 1 + 1) (by omega)).trans q4
  have HQ2 := hid (show Below w.heap.size w w2 from q1.trans (hB2.mono q1.size))
  have HO2 := hid (q5.below hB2)
  have p0 : w2.cell? ⟨w.heap.size + 1, 0, none⟩ = some (.int .i64 k) := by rw [cell_of_heap r3]; rfl
  have p1 : w2.cell? ⟨w.heap.size + 1, 1, none⟩ = some (.int .u64 (x : Int)) := by rw [cell_of_heap r3]; rfl
  have p3 : w2.cell? ⟨w.heap.size + 1, 3, none⟩ = some (.slice ao n cr) := by rw [cell_of_heap r3]; rfl
  have HR2 := hid r2
  have HR3 := hid r3
  have HR4 := hid r4
  clear q1 q2 q3 q4 q5 q6 r2 r3 r4 HQ hB2
  have HW := hid (fun w => width_any k w)
  go_upto_if 13 with (refine (HW.out _).mono ?_; rintro e w3 ⟨rfl, rfl⟩)
  go_cut [5, 6] (fun av sv wx => (∃ z, sv = .int .i64 z) ∧ ∃ wy, wy = wx ∧ ∃ aa ac, av = .slice aa (addB k x bs).length ac ∧ Hid (WqAt w wy limit (wfl k f bs) a m c aa (addB k x bs).length ac (addB k x bs)))
  case first =>
    clear HW
    by_cases hk4 : k ≤ 4
    · obtain ⟨q, hq, hq1, hq8, hqa, hqf⟩ : ∃ q : Nat, wdt k = (q : Int) ∧ 1 ≤ q ∧ q ≤ 8 ∧ addB k x bs = beL x q ∧ wfl k f bs = f := by
        obtain rfl | rfl | rfl | rfl : k = 1 ∨ k = 2 ∨ k = 3 ∨ k = 4 := by omega
        · exact ⟨1, rfl, by omega, by omega, rfl, by simp [wfl]⟩
        · exact ⟨2, rfl, by omega, by omega, rfl, by simp [wfl]⟩
        · exact ⟨4, rfl, by omega, by omega, rfl, by simp [wfl]⟩
        · exact ⟨8, rfl, by omega, by omega, rfl, by simp [wfl]⟩
      have HEQ := hid (And.intro hqa hqf)
      have HN := hid (Number_any x q w2 hx hq8)
      rw [← hq] at HN
      have hI : (0 : Int) < wdt k := by omega
      clear hqa hqf hq
      go_wp2_with fail
      refine HN.out.mono ?_
      rintro e w4 ⟨v, rfl, how, hb4⟩
      obtain ⟨a5, c5, rfl, -, hc5, hbs5, hls5⟩ := bs_of_owns how (fun z hz => by
        obtain ⟨i, _, rfl⟩ := List.mem_map.1 hz
        exact Nat.mod_lt _ (by decide))
      have hnil5 : a5 = none → c5 = 0 := fun e => by
        rcases how.2 with ⟨h, _⟩ | ⟨g, cap, cur, h, _⟩
        · simp only [Value.slice.injEq] at h; exact h.2.2
        · simp only [Value.slice.injEq] at h; rw [e] at h; cases h.1
      have HAT := hid (show WqAt w w4 limit (wfl k f bs) a m c a5 (addB k x bs).length c5 (addB k x bs) from by
        rw [HEQ.out.1, HEQ.out.2, beL_length]
        have hlo := HQ2.out.size
        exact ⟨HQ2.out.trans (hb4.mono hlo), (hb4.block _ (lt_of_heap HR2.out)).trans HR2.out, (hb4.block _ (lt_of_heap HR4.out)).trans HR4.out, hbs5, hnil5, by omega⟩)
      have hlq : (addB k x bs).length = q := by rw [HEQ.out.1, beL_length]
      clear how hbs5 hls5
      go_wp2_with fail
      go_meet
      exact ⟨⟨_, rfl⟩, _, rfl, _, _, by rw [hlq], HAT⟩
    by_cases hk5 : k = 5
    · subst hk5
      have hnl := ho.len
      have HAT := hid (show WqAt w w2 limit (wfl 5 f bs) a m c ao (addB 5 x bs).length cr (addB 5 x bs) from by
        have e1 : addB 5 x bs = bs := rfl
        have e2 : wfl 5 f bs = f := by simp [wfl]
        rw [e1, e2, ← hnl]
        exact ⟨HQ2.out, HR2.out, HR4.out, HO2.out, honil, by omega⟩)
      have hlq : (addB 5 x bs).length = n := hnl.symm
      have hd : wdt 5 = 0 := rfl
      rw [hd]
      clear hnl
      go_wp2_with fail
      go_meet
      exact ⟨⟨_, rfl⟩, _, rfl, _, _, by rw [hlq], HAT⟩
    obtain rfl : k = 6 := by omega
    have hd : wdt 6 = 0 := rfl
    rw [hd]
    have hnl := ho.len
    have HNL := hid hnl
    have hlx : (addB 6 x bs).length = 2 + n := by
      show (beL bs.length 2 ++ bs).length = _
      rw [List.length_append, beL_length, ← hnl]
    have HLX := hid hlx
    have hbo := HO2.out
    have tn : IntKind.u64.wrap (n : Int) = (n : Int) := by rw [IntKind.wrap_u64]; omega
    -- the text behind the question whether it is too long
    have HTX := hid (fun (w3 : World) (hb3 : Below w.heap.size w w3) => (show Calls Tryd.prog 50 #[.int .u64 (n : Int), .int .i64 2] w3 _ from Number_any n 2 w3 (by omega) (by omega)))
    have HA6 := hid (show addB 6 x bs = beTo n 2 2 ++ bs from by rw [hnl]; rfl)
    have HALL := hid (show ∀ z ∈ beTo n 2 2 ++ bs, z < 256 from fun z hz => by
      rcases List.mem_append.1 hz with h | h
      · obtain ⟨i, _, rfl⟩ := List.mem_map.1 h
        exact Nat.mod_lt _ (by decide)
      · obtain ⟨_, _, _, h2, _⟩ := ho
        exact h2 z h)
    clear hnl hlx
    by_cases hbig : 65535 < n
    · have hI : (65535 : Int) < (n : Int) := by omega
      have HF := hid (show wfl 6 f bs = true from by unfold wfl; rw [← HNL.out]; simp [hbig])
      have c0 : w2.cell? ⟨w.heap.size, 1, none⟩ = some (.bool f) := by rw [cell_of_heap HR2.out]; rfl
      have c1 := free_of_heap HR2.out 1
      have hK : Kept w.heap.size w2 (w2.setCell ⟨w.heap.size, 1, none⟩ (.bool true)) := (Kept.refl _ _).setCell (p := ⟨w.heap.size, 1, none⟩) rfl _
      obtain ⟨w3, hw3⟩ : ∃ q, q = w2.setCell ⟨w.heap.size, 1, none⟩ (.bool true) := ⟨_, rfl⟩
      rw [← hw3] at hK
      have HR3a := hid (show w3.heap[w.heap.size]? = some (.cells #[.int .i64 limit, .bool true, .slice a m c] 29 (0, 0)) from by rw [hw3]; exact heap_setCell_same w2 w.heap.size 1 _ _ (.bool true) HR2.out)
      have HR3b := hid ((hK.block _ (lt_of_heap HR3.out) (by omega)).trans HR3.out)
      have HR3c := hid ((hK.block _ (lt_of_heap HR4.out) (by omega)).trans HR4.out)
      have HW3 := hid (HQ2.out.trans (hK.below HQ2.out.size (Nat.le_refl _)))
      have HB3 := hid (ho.below HW3.out)
      have HP3 := hid (show ∀ wx, Below w3.heap.size w3 wx → wx.cell? ⟨w.heap.size + 1, 3, none⟩ = some (.slice ao n cr) from fun wx h => (h.cell (p := ⟨w.heap.size + 1, 3, none⟩) (lt_of_heap HR3b.out)).trans (by rw [cell_of_heap HR3b.out]; rfl))
      have hp3 := HP3.out w3 (Below.refl _ _)
      go_upto_region 10 with fail
      rw [← hw3]
      clear hw3 hK c0 c1
      go_region_held3 (fun wx => wx.cell? ⟨w.heap.size + 1, 3, none⟩ = some (.slice ao n cr))
        (first | exact HP3.out _ (Below.refl _ _) | exact HP3.out _ (bel_drewN (Below.refl _ _) 1) | exact HP3.out _ hbA | exact HP3.out _ hbB | go_keep)
        (first
          | (go_at_call 50; refine (HTX.out _ (bel_drewN HW3.out 1)).mono ?_; rintro e wA ⟨v, rfl, how, hbA0⟩
             have hbA : Below w3.heap.size w3 wA := (bel_drewN (Below.refl _ _) 1).trans hbA0
             have HBA := hid hbA)
          | (have how0 := how.2
             refine step_own_bytesH (by rfl) (.tmp 35) (.tmp 37) (by rfl) w3.heap.size 2 v (beTo n 2 2) (by rfl) how ao n cr bs (by rfl) (HB3.out.below hbA) honil (by omega) (HBA.out.size) ?_
             intro v5 wB how5 hgB
             have hbB : Below w3.heap.size w3 wB := hbA.grown hgB HBA.out.size (fun g hg => (how.lt g hg).1)
             obtain ⟨a5, c5, e5, -, hc5, hbs5, hls5⟩ := bs_of_owns how5 HALL.out
             subst e5))
      have hnil5 : a5 = none → c5 = 0 := fun e => by
        rcases how5.2 with ⟨h, _⟩ | ⟨g, cap, cur, h, _⟩
        · simp only [Value.slice.injEq] at h; exact h.2.2
        · simp only [Value.slice.injEq] at h; rw [e] at h; cases h.1
      have HAT := hid (show WqAt w wB limit (wfl 6 f bs) a m c a5 (addB 6 x bs).length c5 (addB 6 x bs) from by
        rw [HF.out, HLX.out, HA6.out]
        exact ⟨HW3.out.trans (hbB.mono HW3.out.size), (hbB.block _ (lt_of_heap HR3a.out)).trans HR3a.out, (hbB.block _ (lt_of_heap HR3c.out)).trans HR3c.out, hbs5, hnil5, by omega⟩)
      have hlq := HLX.out
      go_wp2_with fail
      go_meet
      exact ⟨⟨_, rfl⟩, _, rfl, _, _, by rw [hlq], HAT⟩
    · have hI : ¬ (65535 : Int) < (n : Int) := by omega
      have HF := hid (show wfl 6 f bs = f from by unfold wfl; rw [← HNL.out]; simp [hbig])
      obtain ⟨w3, hw3⟩ : ∃ q, q = w2 := ⟨_, rfl⟩
      have HR3a := hid (show w3.heap[w.heap.size]? = some (.cells #[.int .i64 limit, .bool f, .slice a m c] 29 (0, 0)) from by rw [hw3]; exact HR2.out)
      have HR3b := hid (show w3.heap[w.heap.size + 1]? = some (.cells #[.int .i64 6, .int .u64 (x : Int), .int .i64 nn, .slice ao n cr] 33 (0, 0)) from by rw [hw3]; exact HR3.out)
      have HR3c := hid (show w3.heap[w.heap.size + 1 + 1]? = some (.cells #[.int .i64 0, .bool false, .slice none 0 0] 29 (0, 0)) from by rw [hw3]; exact HR4.out)
      have HW3 := hid (show Below w.heap.size w w3 from by rw [hw3]; exact HQ2.out)
      have HB3 := hid (ho.below HW3.out)
      have HP3 := hid (show ∀ wx, Below w3.heap.size w3 wx → wx.cell? ⟨w.heap.size + 1, 3, none⟩ = some (.slice ao n cr) from fun wx h => (h.cell (p := ⟨w.heap.size + 1, 3, none⟩) (lt_of_heap HR3b.out)).trans (by rw [cell_of_heap HR3b.out]; rfl))
      have hp3 := HP3.out w3 (Below.refl _ _)
      go_upto_region 10 with fail
      rw [← hw3]
      clear hw3
      go_region_held3 (fun wx => wx.cell? ⟨w.heap.size + 1, 3, none⟩ = some (.slice ao n cr))
        (first | exact HP3.out _ (Below.refl _ _) | exact HP3.out _ (bel_drewN (Below.refl _ _) 1) | exact HP3.out _ hbA | exact HP3.out _ hbB | go_keep)
        (first
          | (go_at_call 50; refine (HTX.out _ (bel_drewN HW3.out 1)).mono ?_; rintro e wA ⟨v, rfl, how, hbA0⟩
             have hbA : Below w3.heap.size w3 wA := (bel_drewN (Below.refl _ _) 1).trans hbA0
             have HBA := hid hbA)
          | (have how0 := how.2
             refine step_own_bytesH (by rfl) (.tmp 35) (.tmp 37) (by rfl) w3.heap.size 2 v (beTo n 2 2) (by rfl) how ao n cr bs (by rfl) (HB3.out.below hbA) honil (by omega) (HBA.out.size) ?_
             intro v5 wB how5 hgB
             have hbB : Below w3.heap.size w3 wB := hbA.grown hgB HBA.out.size (fun g hg => (how.lt g hg).1)
             obtain ⟨a5, c5, e5, -, hc5, hbs5, hls5⟩ := bs_of_owns how5 HALL.out
             subst e5))
      have hnil5 : a5 = none → c5 = 0 := fun e => by
        rcases how5.2 with ⟨h, _⟩ | ⟨g, cap, cur, h, _⟩
        · simp only [Value.slice.injEq] at h; exact h.2.2
        · simp only [Value.slice.injEq] at h; rw [e] at h; cases h.1
      have HAT := hid (show WqAt w wB limit (wfl 6 f bs) a m c a5 (addB 6 x bs).length c5 (addB 6 x bs) from by
        rw [HF.out, HLX.out, HA6.out]
        exact ⟨HW3.out.trans (hbB.mono HW3.out.size), (hbB.block _ (lt_of_heap HR3a.out)).trans HR3a.out, (hbB.block _ (lt_of_heap HR3c.out)).trans HR3c.out, hbs5, hnil5, by omega⟩)
      have hlq := HLX.out
      go_wp2_with fail
      go_meet
      exact ⟨⟨_, rfl⟩, _, rfl, _, _, by rw [hlq], HAT⟩
  case rest =>
    obtain ⟨⟨z, rfl⟩, wx, hwx, aa, ac, rfl, HAT⟩ := hcut
    subst hwx
    clear p0 p1 p3 HQ2 HO2 HR2 HR3 HR4 HW ho
    obtain ⟨bx, hbx⟩ : ∃ q, q = addB k x bs := ⟨_, rfl⟩
    obtain ⟨f2, hf2⟩ : ∃ q, q = wfl k f bs := ⟨_, rfl⟩
    rw [← hbx, ← hf2] at HAT
    rw [← hbx]
    obtain ⟨L, hL⟩ : ∃ q, q = bx.length := ⟨_, rfl⟩
    rw [← hL] at HAT ⊢
    have hLl := HAT.out.len
    have hml := hb.len
    have HB := hid hb
    have HML := hid hml
    have HLE := hid hL
    have HFIN := hid (fun (e : Ending) (w' : World) (h : WroTo w a limit (wadd lim l f2 bx) e w') => (show WroTo w a limit (wadd lim l (wfl k f bs) (addB k x bs)) e w' from by rw [← hbx, ← hf2]; exact h))
    clear hml hL hbx hf2
    have o0 : wx.cell? ⟨w.heap.size, 0, none⟩ = some (.int .i64 limit) := by rw [cell_of_heap HAT.out.oo]; rfl
    have o1 : wx.cell? ⟨w.heap.size, 1, none⟩ = some (.bool f2) := by rw [cell_of_heap HAT.out.oo]; rfl
    have o2 : wx.cell? ⟨w.heap.size, 2, none⟩ = some (.slice a m c) := by rw [cell_of_heap HAT.out.oo]; rfl
    have g1 := free_of_heap HAT.out.oo 1
    have g2 := free_of_heap HAT.out.oo 2
    have t1 : IntKind.i64.wrap ((m : Int) + (L : Int)) = (m : Int) + (L : Int) := by rw [IntKind.wrap_i64]; omega
    have hlim0 : (0 : Int) ≤ (lim : Int) := by omega
    have hK : Kept w.heap.size wx (wx.setCell ⟨w.heap.size, 1, none⟩ (.bool true)) := (Kept.refl _ _).setCell (p := ⟨w.heap.size, 1, none⟩) rfl _
    obtain ⟨w4, hw4⟩ : ∃ q, q = wx.setCell ⟨w.heap.size, 1, none⟩ (.bool true) := ⟨_, rfl⟩
    rw [← hw4] at hK
    have HO4 := hid (show w4.heap[w.heap.size]? = some (.cells #[.int .i64 limit, .bool true, .slice a m c] 29 (0, 0)) from by rw [hw4]; exact heap_setCell_same wx w.heap.size 1 _ _ (.bool true) HAT.out.oo)
    have HR4 := hid ((hK.block _ (lt_of_heap HAT.out.rr) (by omega)).trans HAT.out.rr)
    have HW4 := hid (HAT.out.bel.trans (hK.below HAT.out.bel.size (Nat.le_refl _)))
    have y0 : w4.cell? ⟨w.heap.size, 0, none⟩ = some (.int .i64 limit) := by rw [cell_of_heap HO4.out]; rfl
    have y1 : w4.cell? ⟨w.heap.size, 1, none⟩ = some (.bool true) := by rw [cell_of_heap HO4.out]; rfl
    have y2 : w4.cell? ⟨w.heap.size, 2, none⟩ = some (.slice a m c) := by rw [cell_of_heap HO4.out]; rfl
    have z0 : w4.cell? ⟨w.heap.size + 1 + 1, 0, none⟩ = some (.int .i64 0) := by rw [cell_of_heap HR4.out]; rfl
    have z1 : w4.cell? ⟨w.heap.size + 1 + 1, 1, none⟩ = some (.bool false) := by rw [cell_of_heap HR4.out]; rfl
    have z2 : w4.cell? ⟨w.heap.size + 1 + 1, 2, none⟩ = some (.slice none 0 0) := by rw [cell_of_heap HR4.out]; rfl
    have e0 := free_of_heap HR4.out 0
    have e1 := free_of_heap HR4.out 1
    have e2 := free_of_heap HR4.out 2
    have HBAD := hid (show (f2 || decide (lim < m + L)) = true → WroTo w a limit (wadd lim l f2 bx) (.returned (outV limit true a m c)) (((w4.setCell ⟨w.heap.size + 1 + 1, 0, none⟩ (.int .i64 limit)).setCell ⟨w.heap.size + 1 + 1, 1, none⟩ (.bool true)).setCell ⟨w.heap.size + 1 + 1, 2, none⟩ (.slice a m c)) from fun h => by
      have hwd : wadd lim l f2 bx = (l, true) := by unfold wadd; rw [← HML.out, ← HLE.out, if_pos h]
      have hk3 : Kept (w.heap.size + 1 + 1) w4 (((w4.setCell ⟨w.heap.size + 1 + 1, 0, none⟩ (.int .i64 limit)).setCell ⟨w.heap.size + 1 + 1, 1, none⟩ (.bool true)).setCell ⟨w.heap.size + 1 + 1, 2, none⟩ (.slice a m c)) := (((Kept.refl _ _).setCell (p := ⟨w.heap.size + 1 + 1, 0, none⟩) rfl _).setCell (p := ⟨w.heap.size + 1 + 1, 1, none⟩) rfl _).setCell (p := ⟨w.heap.size + 1 + 1, 2, none⟩) rfl _
      have hbel := HW4.out.trans (hk3.below HW4.out.size (by omega))
      rw [hwd]
      refine ⟨a, c, by rw [← HML.out], ?_, ?_, hnil, hbel, fun ad e => Nat.lt_of_lt_of_le (hab ad e) hbel.size, .inl rfl⟩
      · rw [← HML.out]; exact HB.out.below hbel
      · rw [← HML.out]; exact hmc)
    by_cases hneg : limit < 0
    · have HL0 := hid (show lim = 0 from by omega)
      clear hlim
      by_cases hff : f2 = true
      · have HOR := hid (show (f2 || decide (lim < m + L)) = true from by rw [hff]; rfl)
        rw [hff] at o1
        go_upto_region 17 with fail
        rw [← hw4]
        clear hw4 o0 o1 o2 g1 g2
        go_wp2
        exact bodyPost_ret (v := outV limit true a m c) (by simp [results, Tryd.results13, go_sem, outV, z0, z1, z2]) rfl (HFIN.out _ _ (HBAD.out HOR))
      have hf0 : f2 = false := by simpa using hff
      have HFF := hid hf0
      rw [hf0] at o1
      have HAT2 := hid (show WqAt w wx limit false a m c aa L ac bx from hf0 ▸ HAT.out)
      by_cases hbig : lim < m + L
      · have HOR := hid (show (f2 || decide (lim < m + L)) = true from by rw [decide_eq_true hbig, Bool.or_true])
        have hI : (0 : Int) < (m : Int) + (L : Int) := by have h := HL0.out; omega
        go_upto_region 17 with fail
        rw [← hw4]
        clear hw4 o0 o1 o2 g1 g2
        go_wp2
        exact bodyPost_ret (v := outV limit true a m c) (by simp [results, Tryd.results13, go_sem, outV, z0, z1, z2]) rfl (HFIN.out _ _ (HBAD.out HOR))
      · have hI : ¬ (0 : Int) < (m : Int) + (L : Int) := by have h := HL0.out; omega
        have HBIG := hid hbig
        clear y0 y1 y2 z0 z1 z2 e0 e1 e2 HBAD HO4 HR4 HW4 hw4 hK hbig
        have hlt0 : w.heap.size < wx.heap.size := lt_of_heap HAT2.out.oo
        have o2' : (wx.alloc (.cells #[] 5)).cell? ⟨w.heap.size, 2, none⟩ = some (.slice a m c) := by rw [cell_of_heap (heap_alloc HAT2.out.oo _)]; rfl
        have HA := hid (hid ((HB.out.below HAT2.out.bel).alloc (.cells #[] 5)))
        have hzx := HAT2.out.bel.size
        have hsz3 := lt_of_heap HAT2.out.rr
        go_wp2_with (first
                   | (refine wpList_cloneB (by rfl) (.tmp 58) (.tmp 60) (by rfl) wx.heap.size (by rfl) (heap_new _ _) a m c l (by rfl) HA.out.out hnil (by omega) ?_
                      intro a5 c5 w5 hb5 hc5 hw5 hn5 hk5 hown5
                      have HB5 := hid (show Below wx.heap.size wx w5 from ((Below.refl _ _).alloc (Nat.le_refl _) _).trans (hk5.below (by simp) (Nat.le_refl _)))
                      have HOW5 := hid hown5
                      have HAL := hid (show ∀ z ∈ l ++ bx, z < 256 from fun z hz => by
                        rcases List.mem_append.1 hz with h | h
                        · obtain ⟨_, _, _, h2, _⟩ := HB.out
                          exact h2 z h
                        · obtain ⟨_, _, _, h2, _⟩ := HAT2.out.add
                          exact h2 z h)
                      clear hb5 hc5 hw5 hn5 hk5 hown5)
                   | (have how0 := HOW5.out
                      refine wpList_raw (by rfl) (.tmp 61) (.tmp 62) (by rfl) wx.heap.size m (.slice a5 m c5) l (by rfl) HOW5.out aa L ac bx (by rfl) (HAT2.out.add.below HB5.out) HAT2.out.nil (by omega) HB5.out.size ?_
                      intro v6 w6 hown6 hg6 hsr6
                      have HB6 := hid (show Below wx.heap.size wx w6 from HB5.out.grown hg6 HB5.out.size (fun g hg => (HOW5.out.lt g hg).1))
                      have HOW6 := hid hown6
                      obtain ⟨a6, c6, v6e, -, hc6, hbs6, hls6⟩ := bs_of_owns hown6 HAL.out
                      subst v6e
                      have HBS6 := hid hbs6
                      have HLS6 := hid hls6
                      have HO6 := hid ((HB6.out.block _ (lt_of_heap HAT2.out.oo)).trans HAT2.out.oo)
                      have HR6 := hid ((HB6.out.block _ hsz3).trans HAT2.out.rr)
                      have k0 : w6.cell? ⟨w.heap.size, 0, none⟩ = some (.int .i64 limit) := by rw [cell_of_heap HO6.out]; rfl
                      have k1 : w6.cell? ⟨w.heap.size, 1, none⟩ = some (.bool false) := by rw [cell_of_heap HO6.out]; rfl
                      have k2 : w6.cell? ⟨w.heap.size, 2, none⟩ = some (.slice a m c) := by rw [cell_of_heap HO6.out]; rfl
                      have k3 := free_of_heap HO6.out 2
                      have z0 : w6.cell? ⟨w.heap.size + 1 + 1, 0, none⟩ = some (.int .i64 0) := by rw [cell_of_heap HR6.out]; rfl
                      have z1 : w6.cell? ⟨w.heap.size + 1 + 1, 1, none⟩ = some (.bool false) := by rw [cell_of_heap HR6.out]; rfl
                      have z2 : w6.cell? ⟨w.heap.size + 1 + 1, 2, none⟩ = some (.slice none 0 0) := by rw [cell_of_heap HR6.out]; rfl
                      have e0 := free_of_heap HR6.out 0
                      have e1 := free_of_heap HR6.out 1
                      have e2 := free_of_heap HR6.out 2
                      clear hown6 hg6 hsr6 hbs6 hls6))
        have hK7 : Kept w.heap.size w6 (w6.setCell ⟨w.heap.size, 2, none⟩ (.slice a6 (m + L) c6)) := (Kept.refl _ _).setCell (p := ⟨w.heap.size, 2, none⟩) rfl _
        obtain ⟨w7, hw7⟩ : ∃ q, q = w6.setCell ⟨w.heap.size, 2, none⟩ (.slice a6 (m + L) c6) := ⟨_, rfl⟩
        rw [← hw7] at hK7
        have HW7 := hid ((HAT2.out.bel.trans (HB6.out.mono hzx)).trans (hK7.below (Nat.le_trans hzx HB6.out.size) (Nat.le_refl _)))
        have HK7 := hid hK7
        have HW77 := hid hw7
        clear hw7 hK7
        have hwd : wadd lim l f2 bx = (l ++ bx, false) := by rw [HFF.out]; exact wadd_fits _ _ _ (by have h9 := HBIG.out; rw [← HML.out, ← HLE.out]; omega)
        have hll : (l ++ bx).length = m + L := by rw [List.length_append, ← HML.out, ← HLE.out]
        have hk3 : Kept (w.heap.size + 1 + 1) w7 (((w7.setCell ⟨w.heap.size + 1 + 1, 0, none⟩ (.int .i64 limit)).setCell ⟨w.heap.size + 1 + 1, 1, none⟩ (.bool false)).setCell ⟨w.heap.size + 1 + 1, 2, none⟩ (.slice a6 (m + L) c6)) := (((Kept.refl _ _).setCell (p := ⟨w.heap.size + 1 + 1, 0, none⟩) rfl _).setCell (p := ⟨w.heap.size + 1 + 1, 1, none⟩) rfl _).setCell (p := ⟨w.heap.size + 1 + 1, 2, none⟩) rfl _
        have hbel := HW7.out.trans (hk3.below HW7.out.size (by omega))
        have hn6 : a6 = none → c6 = 0 := fun e => by
          rcases HOW6.out.2 with ⟨h, _⟩ | ⟨g, cap, cur, h, _⟩
          · simp only [Value.slice.injEq] at h; exact h.2.2
          · simp only [Value.slice.injEq] at h; rw [e] at h; cases h.1
        have hdone : WroTo w a limit (wadd lim l f2 bx) (.returned (outV limit false a6 (m + L) c6)) (((w7.setCell ⟨w.heap.size + 1 + 1, 0, none⟩ (.int .i64 limit)).setCell ⟨w.heap.size + 1 + 1, 1, none⟩ (.bool false)).setCell ⟨w.heap.size + 1 + 1, 2, none⟩ (.slice a6 (m + L) c6)) := by
          rw [hwd]
          refine ⟨a6, c6, by rw [hll], ?_, by rw [hll]; exact hc6, hn6, hbel, fun ad e => Nat.lt_of_lt_of_le (HLS6.out ad e).2 (Nat.le_trans HK7.out.size hk3.size), .inr fun ad e => Nat.le_trans hzx (HLS6.out ad e).1⟩
          rw [hll]
          exact (HBS6.out.kept HK7.out (off_to fun ad e => by have := (HLS6.out ad e).1; omega)).kept hk3 (off_to fun ad e => by have := (HLS6.out ad e).1; omega)
        rw [HW77.out] at hdone
        have HDONE := hid hdone
        clear hdone hbel hk3 hll hwd hn6 hzx hsz3 hlt0 hI
        go_wp2
        exact bodyPost_ret (v := outV limit false a6 (m + L) c6) (by simp [results, Tryd.results13, go_sem, outV, z0, z1, z2]) rfl (HFIN.out _ _ HDONE.out)
    · obtain ⟨l2, rfl⟩ : ∃ l2 : Nat, limit = (l2 : Int) := ⟨limit.toNat, by omega⟩
      obtain rfl : lim = l2 := by omega
      clear hlim
      by_cases hff : f2 = true
      · have HOR := hid (show (f2 || decide (lim < m + L)) = true from by rw [hff]; rfl)
        rw [hff] at o1
        go_upto_region 17 with fail
        rw [← hw4]
        clear hw4 o0 o1 o2 g1 g2
        go_wp2
        exact bodyPost_ret (v := outV (lim : Int) true a m c) (by simp [results, Tryd.results13, go_sem, outV, z0, z1, z2]) rfl (HFIN.out _ _ (HBAD.out HOR))
      have hf0 : f2 = false := by simpa using hff
      have HFF := hid hf0
      rw [hf0] at o1
      have HAT2 := hid (show WqAt w wx (lim : Int) false a m c aa L ac bx from hf0 ▸ HAT.out)
      by_cases hbig : lim < m + L
      · have HOR := hid (show (f2 || decide (lim < m + L)) = true from by rw [decide_eq_true hbig, Bool.or_true])
        have hI : (lim : Int) < (m : Int) + (L : Int) := by omega
        go_upto_region 17 with fail
        rw [← hw4]
        clear hw4 o0 o1 o2 g1 g2
        go_wp2
        exact bodyPost_ret (v := outV (lim : Int) true a m c) (by simp [results, Tryd.results13, go_sem, outV, z0, z1, z2]) rfl (HFIN.out _ _ (HBAD.out HOR))
      · have hI : ¬ (lim : Int) < (m : Int) + (L : Int) := by omega
        have HBIG := hid hbig
        clear y0 y1 y2 z0 z1 z2 e0 e1 e2 HBAD HO4 HR4 HW4 hw4 hK hbig
        have hlt0 : w.heap.size < wx.heap.size := lt_of_heap HAT2.out.oo
        have o2' : (wx.alloc (.cells #[] 5)).cell? ⟨w.heap.size, 2, none⟩ = some (.slice a m c) := by rw [cell_of_heap (heap_alloc HAT2.out.oo _)]; rfl
        have HA := hid (hid ((HB.out.below HAT2.out.bel).alloc (.cells #[] 5)))
        have hzx := HAT2.out.bel.size
        have hsz3 := lt_of_heap HAT2.out.rr
        go_wp2_with (first
                   | (refine wpList_cloneB (by rfl) (.tmp 58) (.tmp 60) (by rfl) wx.heap.size (by rfl) (heap_new _ _) a m c l (by rfl) HA.out.out hnil (by omega) ?_
                      intro a5 c5 w5 hb5 hc5 hw5 hn5 hk5 hown5
                      have HB5 := hid (show Below wx.heap.size wx w5 from ((Below.refl _ _).alloc (Nat.le_refl _) _).trans (hk5.below (by simp) (Nat.le_refl _)))
                      have HOW5 := hid hown5
                      have HAL := hid (show ∀ z ∈ l ++ bx, z < 256 from fun z hz => by
                        rcases List.mem_append.1 hz with h | h
                        · obtain ⟨_, _, _, h2, _⟩ := HB.out
                          exact h2 z h
                        · obtain ⟨_, _, _, h2, _⟩ := HAT2.out.add
                          exact h2 z h)
                      clear hb5 hc5 hw5 hn5 hk5 hown5)
                   | (have how0 := HOW5.out
                      refine wpList_raw (by rfl) (.tmp 61) (.tmp 62) (by rfl) wx.heap.size m (.slice a5 m c5) l (by rfl) HOW5.out aa L ac bx (by rfl) (HAT2.out.add.below HB5.out) HAT2.out.nil (by omega) HB5.out.size ?_
                      intro v6 w6 hown6 hg6 hsr6
                      have HB6 := hid (show Below wx.heap.size wx w6 from HB5.out.grown hg6 HB5.out.size (fun g hg => (HOW5.out.lt g hg).1))
                      have HOW6 := hid hown6
                      obtain ⟨a6, c6, v6e, -, hc6, hbs6, hls6⟩ := bs_of_owns hown6 HAL.out
                      subst v6e
                      have HBS6 := hid hbs6
                      have HLS6 := hid hls6
                      have HO6 := hid ((HB6.out.block _ (lt_of_heap HAT2.out.oo)).trans HAT2.out.oo)
                      have HR6 := hid ((HB6.out.block _ hsz3).trans HAT2.out.rr)
                      have k0 : w6.cell? ⟨w.heap.size, 0, none⟩ = some (.int .i64 (lim : Int)) := by rw [cell_of_heap HO6.out]; rfl
                      have k1 : w6.cell? ⟨w.heap.size, 1, none⟩ = some (.bool false) := by rw [cell_of_heap HO6.out]; rfl
                      have k2 : w6.cell? ⟨w.heap.size, 2, none⟩ = some (.slice a m c) := by rw [cell_of_heap HO6.out]; rfl
                      have k3 := free_of_heap HO6.out 2
                      have z0 : w6.cell? ⟨w.heap.size + 1 + 1, 0, none⟩ = some (.int .i64 0) := by rw [cell_of_heap HR6.out]; rfl
                      have z1 : w6.cell? ⟨w.heap.size + 1 + 1, 1, none⟩ = some (.bool false) := by rw [cell_of_heap HR6.out]; rfl
                      have z2 : w6.cell? ⟨w.heap.size + 1 + 1, 2, none⟩ = some (.slice none 0 0) := by rw [cell_of_heap HR6.out]; rfl
                      have e0 := free_of_heap HR6.out 0
                      have e1 := free_of_heap HR6.out 1
                      have e2 := free_of_heap HR6.out 2
                      clear hown6 hg6 hsr6 hbs6 hls6))
        have hK7 : Kept w.heap.size w6 (w6.setCell ⟨w.heap.size, 2, none⟩ (.slice a6 (m + L) c6)) := (Kept.refl _ _).setCell (p := ⟨w.heap.size, 2, none⟩) rfl _
        obtain ⟨w7, hw7⟩ : ∃ q, q = w6.setCell ⟨w.heap.size, 2, none⟩ (.slice a6 (m + L) c6) := ⟨_, rfl⟩
        rw [← hw7] at hK7
        have HW7 := hid ((HAT2.out.bel.trans (HB6.out.mono hzx)).trans (hK7.below (Nat.le_trans hzx HB6.out.size) (Nat.le_refl _)))
        have HK7 := hid hK7
        have HW77 := hid hw7
        clear hw7 hK7
        have hwd : wadd lim l f2 bx = (l ++ bx, false) := by rw [HFF.out]; exact wadd_fits _ _ _ (by have h9 := HBIG.out; rw [← HML.out, ← HLE.out]; omega)
        have hll : (l ++ bx).length = m + L := by rw [List.length_append, ← HML.out, ← HLE.out]
        have hk3 : Kept (w.heap.size + 1 + 1) w7 (((w7.setCell ⟨w.heap.size + 1 + 1, 0, none⟩ (.int .i64 (lim : Int))).setCell ⟨w.heap.size + 1 + 1, 1, none⟩ (.bool false)).setCell ⟨w.heap.size + 1 + 1, 2, none⟩ (.slice a6 (m + L) c6)) := (((Kept.refl _ _).setCell (p := ⟨w.heap.size + 1 + 1, 0, none⟩) rfl _).setCell (p := ⟨w.heap.size + 1 + 1, 1, none⟩) rfl _).setCell (p := ⟨w.heap.size + 1 + 1, 2, none⟩) rfl _
        have hbel := HW7.out.trans (hk3.below HW7.out.size (by omega))
        have hn6 : a6 = none → c6 = 0 := fun e => by
          rcases HOW6.out.2 with ⟨h, _⟩ | ⟨g, cap, cur, h, _⟩
          · simp only [Value.slice.injEq] at h; exact h.2.2
          · simp only [Value.slice.injEq] at h; rw [e] at h; cases h.1
        have hdone : WroTo w a (lim : Int) (wadd lim l f2 bx) (.returned (outV (lim : Int) false a6 (m + L) c6)) (((w7.setCell ⟨w.heap.size + 1 + 1, 0, none⟩ (.int .i64 (lim : Int))).setCell ⟨w.heap.size + 1 + 1, 1, none⟩ (.bool false)).setCell ⟨w.heap.size + 1 + 1, 2, none⟩ (.slice a6 (m + L) c6)) := by
          rw [hwd]
          refine ⟨a6, c6, by rw [hll], ?_, by rw [hll]; exact hc6, hn6, hbel, fun ad e => Nat.lt_of_lt_of_le (HLS6.out ad e).2 (Nat.le_trans HK7.out.size hk3.size), .inr fun ad e => Nat.le_trans hzx (HLS6.out ad e).1⟩
          rw [hll]
          exact (HBS6.out.kept HK7.out (off_to fun ad e => by have := (HLS6.out ad e).1; omega)).kept hk3 (off_to fun ad e => by have := (HLS6.out ad e).1; omega)
        rw [HW77.out] at hdone
        have HDONE := hid hdone
        clear hdone hbel hk3 hll hwd hn6 hzx hsz3 hlt0 hI
        go_wp2
        exact bodyPost_ret (v := outV (lim : Int) false a6 (m + L) c6) (by simp [results, Tryd.results13, go_sem, outV, z0, z1, z2]) rfl (HFIN.out _ _ HDONE.out)

set_option maxRecDepth 100000 in
set_option maxHeartbeats 4000000 in
theorem wrote_other (k : Int) (x n cr m c lim : Nat) (nn : Int) (limit : Int) (a ao : Option Addr) (f : Bool) (l bs : List Nat) (w : World) (hk : k < 1 ∨ 6 < k)
    (hb : Bs w (.slice a m c) l) (hnil : a = none → c = 0) (hmc : m ≤ c) (hab : ∀ ad, a = some ad → ad.block < w.heap.size) (ho : Bs w (.slice ao n cr) bs) :
    Calls Tryd.prog 13 #[outV limit f a m c, .agg #[.int .i64 k, .int .u64 (x : Int), .int .i64 nn, .slice ao n cr]] w fun e w' => WroTo w a limit (wop lim l f k x bs) e w' := by
  have hwo : wop lim l f k x bs = (l, f) := by unfold wop; rw [if_neg (by omega), if_neg (by omega), if_neg (by omega), if_neg (by omega), if_neg (by omega), if_neg (by omega)]
  rw [hwo]
  obtain ⟨w1, hw1⟩ : ∃ q, q = ((w.alloc (.cells #[.int .i64 limit, .bool f, .slice a m c] 29)).alloc (.cells #[.int .i64 k, .int .u64 (x : Int), .int .i64 nn, .slice ao n cr] 33)).alloc (.cells #[.int .i64 0, .bool false, .slice none 0 0] 29) := ⟨_, rfl⟩
  have HQ := hid (wq_at w limit f a ao m c n cr k (x : Int) nn bs ho w1 hw1)
  have hml := hb.len
  have HML := hid hml
  have HB := hid hb
  have hd : wdt k = 0 := by unfold wdt; rw [if_neg (by omega), if_neg (by omega), if_neg (by omega), if_neg (by omega)]
  have b5 : (k == 5) = false := by rw [beq_eq_false_iff_ne]; omega
  have b6 : (k == 6) = false := by rw [beq_eq_false_iff_ne]; omega
  unfold outV
  clear hwo hml hb ho
  go_enter Tryd.func13, Tryd.ntmps13
  go_upto_region 2 with fail
  rw [← hw1]
  clear hw1
  obtain ⟨w2, hw2⟩ : ∃ q, q = w1.alloc (.cells #[] 5) := ⟨_, rfl⟩
  have hB2 : Below w1.heap.size w1 w2 := by rw [hw2]; exact (Below.refl _ _).alloc (Nat.le_refl _) _
  rw [← hw2]
  clear hw2
  obtain ⟨q1, q2, q3, q4, q5, q6⟩ := HQ.out
  have r2 := (hB2.block w.heap.size (by omega)).trans q2
  have r3 := (hB2.block (w.heap.size + 1) (by omega)).trans q3
  have r4 := (hB2.block (w.heap.size + 1 + 1) (by omega)).trans q4
  have HQ2 := hid (show Below w.heap.size w w2 from q1.trans (hB2.mono q1.size))
  have p0 : w2.cell? ⟨w.heap.size + 1, 0, none⟩ = some (.int .i64 k) := by rw [cell_of_heap r3]; rfl
  have o0 : w2.cell? ⟨w.heap.size, 0, none⟩ = some (.int .i64 limit) := by rw [cell_of_heap r2]; rfl
  have o1 : w2.cell? ⟨w.heap.size, 1, none⟩ = some (.bool f) := by rw [cell_of_heap r2]; rfl
  have o2 : w2.cell? ⟨w.heap.size, 2, none⟩ = some (.slice a m c) := by rw [cell_of_heap r2]; rfl
  have z0 : w2.cell? ⟨w.heap.size + 1 + 1, 0, none⟩ = some (.int .i64 0) := by rw [cell_of_heap r4]; rfl
  have z1 : w2.cell? ⟨w.heap.size + 1 + 1, 1, none⟩ = some (.bool false) := by rw [cell_of_heap r4]; rfl
  have z2 : w2.cell? ⟨w.heap.size + 1 + 1, 2, none⟩ = some (.slice none 0 0) := by rw [cell_of_heap r4]; rfl
  have e0 := free_of_heap r4 0
  have e1 := free_of_heap r4 1
  have e2 := free_of_heap r4 2
  clear q1 q2 q3 q4 q5 q6 r2 r3 r4 HQ hB2
  have HW := hid (fun w => width_any k w)
  rw [hd] at HW
  have hk3 : Kept (w.heap.size + 1 + 1) w2 (((w2.setCell ⟨w.heap.size + 1 + 1, 0, none⟩ (.int .i64 limit)).setCell ⟨w.heap.size + 1 + 1, 1, none⟩ (.bool f)).setCell ⟨w.heap.size + 1 + 1, 2, none⟩ (.slice a m c)) := (((Kept.refl _ _).setCell (p := ⟨w.heap.size + 1 + 1, 0, none⟩) rfl _).setCell (p := ⟨w.heap.size + 1 + 1, 1, none⟩) rfl _).setCell (p := ⟨w.heap.size + 1 + 1, 2, none⟩) rfl _
  have HBEL := hid (HQ2.out.trans (hk3.below HQ2.out.size (by omega)))
  clear hk3 hd
  go_wp2_with (refine (HW.out _).mono ?_; rintro e w3 ⟨rfl, rfl⟩)
  exact bodyPost_ret (v := outV limit f a m c) (by simp [results, Tryd.results13, go_sem, outV, z0, z1, z2]) rfl ⟨a, c, by rw [← HML.out], by rw [← HML.out]; exact HB.out.below HBEL.out, by rw [← HML.out]; exact hmc, hnil, HBEL.out, fun ad e => Nat.lt_of_lt_of_le (hab ad e) HBEL.out.size, .inl rfl⟩
/-- Wrote, every call -/
theorem wrote_any (k : Int) (x n cr m c lim : Nat) (nn : Int) (limit : Int) (a ao : Option Addr) (f : Bool) (l bs : List Nat) (w : World) (hlim : lim = limit.toNat) (hll : limit < 9223372036854775808) (hx : x < 18446744073709551616)
    (hb : Bs w (.slice a m c) l) (hnil : a = none → c = 0) (hmc : m ≤ c) (hm : m ≤ 100000000000) (hab : ∀ ad, a = some ad → ad.block < w.heap.size) (ho : Bs w (.slice ao n cr) bs) (honil : ao = none → cr = 0) (hn : n ≤ 100000000) :
    Calls Tryd.prog 13 #[outV limit f a m c, .agg #[.int .i64 k, .int .u64 (x : Int), .int .i64 nn, .slice ao n cr]] w fun e w' => WroTo w a limit (wop lim l f k x bs) e w' := by
  by_cases h : 1 ≤ k ∧ k ≤ 6
  · exact wrote_in k x n cr m c lim nn limit a ao f l bs w h.1 h.2 hlim hll hx hb hnil hmc hm hab ho honil hn
  · exact wrote_other k x n cr m c lim nn limit a ao f l bs w (by omega) hb hnil hmc hab ho
end Go.Proofs.YtdjnjmekdjcbaaaDoor
