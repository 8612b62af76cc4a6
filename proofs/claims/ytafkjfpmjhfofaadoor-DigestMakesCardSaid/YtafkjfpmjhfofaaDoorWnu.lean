/-
  Writer: number. · Writer: U8, U16, U32, U64, Raw.
-/
import Derived.Test.YtafkjfpmjhfofaaDoorWr
import Derived.Deep.RegionLaw
namespace Go.Proofs.YtafkjfpmjhfofaaDoor
open Go Go.RowKit
set_option linter.unusedVariables false

/-- the lowest n bytes of x, the highest of them first -/
def beB (x n i : Nat) : Nat := x / 2 ^ (8 * (n - 1 - i)) % 256
def beL (x n : Nat) : List Nat := (List.range n).map (beB x n)
theorem beL_length (x n : Nat) : (beL x n).length = n := by simp [beL]
theorem beL_lt (x n : Nat) : ∀ y ∈ beL x n, y < 256 := fun y h => by
  obtain ⟨i, _, rfl⟩ := List.mem_map.1 h
  exact Nat.mod_lt _ (by decide)
def beTo (x n i : Nat) : List Nat := (List.range i).map (beB x n)
theorem beTo_succ (x n i : Nat) : beTo x n (i + 1) = beTo x n i ++ [beB x n i] := by simp [beTo, List.range_succ]
theorem beTo_length (x n i : Nat) : (beTo x n i).length = i := by simp [beTo]
/-- the data and whether it failed, behind an attempt to add bytes -/
def wadd (lim : Nat) (l : List Nat) (f : Bool) (bs : List Nat) : List Nat × Bool := if (f || decide (lim < l.length + bs.length)) = true then (l, true) else (l ++ bs, false)

theorem KeptR.drewN {wb : Nat} {v : Value} {w w' : World} (h : KeptR wb v w w') (n : Nat) : KeptR wb v w (w'.drewN n) := ⟨h.os, h.tape, h.output, h.size, h.block⟩
/-- what an append to the row and the store of its slice leave -/
theorem WrAt.grown {w w1 w2 : World} {wb lim : Nat} {v v' : Value} {l bs : List Nat} (W : WrAt w wb lim v l false) (hw1 : ∀ k, k < w.heap.size → w1.heap[k]? = w.heap[k]?) (hs1 : w.heap.size ≤ w1.heap.size) (ho : w1.os = w.os) (ht : w1.tape = w.tape) (hu : w1.output = w.output)
    (hown : w2.ownsRow (wb + 1) 5 1 v' (l.length + bs.length) (u8s (l ++ bs))) (hg : w1.grownBy w2 v.ownBlock) (hb : ∀ n ∈ bs, n < 256) (hf : l.length + bs.length ≤ lim) (hsr : SameRow w v v') :
    WrAt (w2.setCell ⟨wb, 1, none⟩ v') wb lim v' (l ++ bs) false ∧ KeptR wb v w (w2.setCell ⟨wb, 1, none⟩ v') := by
  have hlt := W.lt_size
  have hne : some wb ≠ v.ownBlock := fun e => by have := (W.own.lt wb e.symm).1; omega
  have h1 : w2.heap[wb]? = _ := (hg.block wb (by omega) hne).trans ((hw1 wb hlt).trans W.at_)
  refine ⟨⟨?_, ?_, ?_, by simpa using hf, W.cap⟩, ?_⟩
  · have h := heap_setCell_same w2 wb 1 _ _ v' h1
    simpa using h
  · rw [List.length_append]
    refine ⟨hown.1, ?_⟩
    rcases hown.2 with h | ⟨g, cap, cur, h1, h2, h3, h4⟩
    · exact .inl h
    · exact .inr ⟨g, cap, cur, h1, h2, by rw [heap_setCell_other w2 _ g _ (by show g ≠ wb; omega)]; exact h3, h4⟩
  · intro n hn
    rcases List.mem_append.1 hn with h | h
    · exact W.lt n h
    · exact hb n h
  · exact KeptR.setCell ⟨hg.os.trans ho, hg.tape.trans ht, hg.output.trans hu, Nat.le_trans hs1 hg.size, fun k hk hkb hkv => (hg.block k (by omega) (fun e => hkv e.symm)).trans (hw1 k hk)⟩ 1 v'

set_option maxRecDepth 100000 in
set_option maxHeartbeats 4000000 in
theorem number_any (wb lim x n : Nat) (v : Value) (l : List Nat) (f : Bool) (w : World) (W : WrAt w wb lim v l f) (hn : n ≤ 8) (hx : x < 18446744073709551616) :
    Calls Tryd.prog 77 #[.pointer (some ⟨wb, 0, none⟩), .int .u64 (x : Int), .int .i64 (n : Int)] w fun e w' => e = .returned (.tuple #[]) ∧
      ∃ v', WrAt w' wb lim v' (wadd lim l f (beL x n)).1 (wadd lim l f (beL x n)).2 ∧ KeptR wb v w w' ∧ SameRow w v v' := by
  have HF := hid (fits_any wb lim n v l f w W (by omega))
  have HE := hid (show (f || decide (lim < l.length + n)) = true → wadd lim l f (beL x n) = (l, true) from fun h => by unfold wadd; rw [beL_length, if_pos h])
  have HE2 := hid (show (f || decide (lim < l.length + n)) = false → wadd lim l f (beL x n) = (l ++ beL x n, false) from fun h => by unfold wadd; rw [beL_length, if_neg (by rw [h]; decide)])
  have HFF := hid (show (f || decide (lim < l.length + n)) = false → l.length + n ≤ lim from fun h => by
    rw [Bool.or_eq_false_iff] at h
    have h2 := h.2
    simp only [decide_eq_false_iff_not] at h2
    omega)
  have hcap := W.cap
  have hlen0 := W.fit
  clear W
  go_enter Tryd.func77, Tryd.ntmps77
  go_wp2_with fail
  refine HF.out.mono ?_
  clear HF
  rintro e w2 ⟨rfl, hW2, hK2⟩
  generalize hb : (f || decide (lim < l.length + n)) = b at *
  clear hb
  have HW2 := hid hW2
  have HK2 := hid hK2
  clear hW2 hK2
  cases b with
  | true =>
    have h1 := HE.out rfl
    have HE3 := hid h1
    clear h1
    go_wp2
    refine bodyPost_ret (results_none rfl _ _ _) rfl ?_
    refine ⟨rfl, v, ?_, HK2.out, SameRow.refl _ _⟩
    rw [HE3.out]
    exact HW2.out
  | false =>
    have h1 := HE2.out rfl
    have hfit := HFF.out rfl
    have HE3 := hid h1
    clear h1 HE HE2 HFF
    go_wp2
    go_loopw [12] (fun iv wr => ∃ (i : Nat) (v' : Value), i ≤ n ∧ iv = .int .i64 i ∧ Hid (WrAt wr wb lim v' (l ++ beTo x n i) false) ∧ Hid (KeptR wb v w wr) ∧ Hid (SameRow w v v')) (fun iv _ => n - (intOf iv).toNat)
    case atStart => exact ⟨0, v, by omega, rfl, hid (by simpa [beTo] using HW2.out), HK2, hid (SameRow.refl _ _)⟩
    case round =>
      clear HW2 HK2
      obtain ⟨i, v', hi, rfl, HW, HK, HS⟩ := hrel
      by_cases hin : i < n
      · have hI : (i : Int) < (n : Int) := by omega
        obtain ⟨sh, hsh⟩ : ∃ sh, sh = 8 * (n - 1 - i) := ⟨_, rfl⟩
        have hs56 : sh ≤ 56 := by omega
        have t1 : IntKind.i64.wrap ((n : Int) - 1) = (n : Int) - 1 := by rw [IntKind.wrap_i64]; omega
        have t2 : IntKind.i64.wrap ((n : Int) - 1 - (i : Int)) = (n : Int) - 1 - (i : Int) := by rw [IntKind.wrap_i64]; omega
        have t3 : IntKind.i64.wrap (8 * ((n : Int) - 1 - (i : Int))) = (sh : Int) := by rw [IntKind.wrap_i64]; omega
        have t4 : 8 * ((n : Int) - 1 - (i : Int)) = (sh : Int) := by omega
        have t5 : (0 : Int) ≤ (sh : Int) := by omega
        have t6 : (sh : Int) ≤ 64 := by omega
        obtain ⟨y, hy⟩ : ∃ y, y = beB x n i := ⟨_, rfl⟩
        have hyl : y < 256 := by rw [hy]; exact Nat.mod_lt _ (by decide)
        have t10 : IntKind.i64.wrap (sh : Int) = (sh : Int) := by rw [IntKind.wrap_i64]; omega
        have hy2 : y = x / 2 ^ sh % 256 := by rw [hy, beB, ← hsh]
        have t9 : IntKind.u8.wrap ((x : Int) / 2 ^ sh) = (y : Int) := by
          have e : (x : Int) / 2 ^ sh = ((x / 2 ^ sh : Nat) : Int) := by norm_cast
          rw [e, IntKind.wrap_u8, hy2]
          omega
        obtain ⟨a, c, rfl, hc, hbs⟩ := HW.out.sl
        have hlt := HW.out.lt_size
        have c1 : wr.cell? ⟨wb, 1, none⟩ = some (.slice a (l ++ beTo x n i).length c) := by rw [cell_of_heap HW.out.at_]; rfl
        have f1 : wr.frozen? ⟨wb, 1, none⟩ = false := free_of_heap HW.out.at_ 1
        have hml : (l ++ beTo x n i).length = l.length + i := by rw [List.length_append, beTo_length]
        have HML := hid hml
        have HSU := hid (fun (_ : Unit) => (show (l ++ beTo x n i) ++ [y] = l ++ beTo x n (i + 1) from by rw [beTo_succ, hy, List.append_assoc]))
        have HOW := hid HW.out.own
        have HP := hid (show ∀ w' : World, w'.heap[wb]? = wr.heap[wb]? → w'.cell? ⟨wb, 1, none⟩ = some (.slice a (l ++ beTo x n i).length c) ∧ w'.frozen? ⟨wb, 1, none⟩ = false from fun w' h => ⟨by rw [World.cell?_of_block (a := ⟨wb, 1, none⟩) h]; exact c1, by rw [World.frozen?_of_block (a := ⟨wb, 1, none⟩) h]; exact f1⟩)
        have hy1 : ∀ z ∈ [y], z < 256 := fun z hz => by rw [List.mem_singleton.1 hz]; exact hyl
        have HY := hid hy1
        have HAR := hid (show some wb ≠ (Value.slice a (l ++ beTo x n i).length c).ownBlock from fun e => by have := (HW.out.own.lt wb e.symm).1; omega)
        have HFT := hid (show (l ++ beTo x n i).length + [y].length ≤ lim from by rw [hml]; show l.length + i + 1 ≤ lim; omega)
        have HNN := hid (show (l ++ beTo x n i).length + 1 ≤ 461168601842 from by rw [hml]; omega)
        clear hy hml hsh hbs hy1 hc hy2
        generalize l ++ beTo x n i = m at *
        generalize hk : m.length = k at *
        have HKK := hid hk
        clear hk
        go_wp2
        go_region_law
          (first
            | (refine step_own_lies (by rfl) (.tmp 19) (.tmp 28) (by rfl) (wb + 1) k (.slice a k c) m (by rfl) (by exact HOW.out.alloc _) wr.heap.size 0 1 1 [y] (by rfl) (Own.bs (l := [y]) (by exact heap_new _ _) HY.out 1) (by decide) HNN.out (by simp; omega) ?_
               intro g5 c5 w5 hown5 hg5 hat5 hlt5
               have hk5 := HP.out w5 ((hg5.block wb (by simp; omega) HAR.out).trans (by exact heap_alloc_old _ _ hlt))
               have k51 := hk5.1
               have k52 := hk5.2
               clear hk5))
        all_goals
          have hsr : SameRow wr (.slice a k c) (.slice (some ⟨g5, 0, none⟩) (k + 1) c5) := fun q hq => by
            simp only [Value.ownBlock, Option.some.injEq] at hq
            subst hq
            rcases hat5 with h | h
            · exact .inl h
            · exact .inr (by rw [h]; simp)
          have hG := HW.out.grown (v' := .slice (some ⟨g5, 0, none⟩) (k + 1) c5) (bs := [y]) (by intro q hq; exact heap_alloc_old _ _ hq) (by simp) (by rfl) (by rfl) (by rfl) (by rw [HKK.out]; exact hown5) hg5 HY.out (by rw [HKK.out]; exact HFT.out) hsr
          rw [HSU.out ()] at hG
          have HW6 := hid hG.1
          have HK6 := hid (HK.out.trans HS.out hG.2)
          have HS6 := hid (HS.out.trans HK.out.size hsr)
          clear hG hsr hown5 hg5 hat5 hlt5
          go_wp2
          exact ⟨⟨i + 1, _, by omega, by go_num, HW6, HK6, HS6⟩, by simp [intOf]; omega⟩
      · obtain rfl : i = n := by omega
        go_wp2
        go_end0
        refine ⟨rfl, v', ?_, HK.out, HS.out⟩
        rw [HE3.out]
        exact HW.out
end Go.Proofs.YtafkjfpmjhfofaaDoor

namespace Go.Proofs.YtafkjfpmjhfofaaDoor
open Go Go.RowKit
set_option linter.unusedVariables false

/-- what an addition to a Writer leaves -/
def Added (wb lim : Nat) (v : Value) (l : List Nat) (f : Bool) (bs : List Nat) (w w' : World) : Prop := ∃ v', WrAt w' wb lim v' (wadd lim l f bs).1 (wadd lim l f bs).2 ∧ KeptR wb v w w' ∧ SameRow w v v'

set_option maxRecDepth 100000 in
theorem U8_any (wb lim x : Nat) (v : Value) (l : List Nat) (f : Bool) (w : World) (W : WrAt w wb lim v l f) (hx : x < 2 ^ 8) :
    Calls Tryd.prog 55 #[.pointer (some ⟨wb, 0, none⟩), .int .u8 (x : Int)] w fun e w' => e = .returned (.tuple #[]) ∧ Added wb lim v l f (beL x 1) w w' := by
  have HN := hid (number_any wb lim x 1 v l f w W (by omega) (Nat.lt_of_lt_of_le hx (by decide)))
  have h0 : IntKind.u64.wrap (x : Int) = (x : Int) := by rw [IntKind.wrap_u64]; omega
  clear W
  go_enter Tryd.func55, Tryd.ntmps55
  go_wp2_with fail
  refine HN.out.mono ?_
  rintro e w2 ⟨rfl, h⟩
  go_wp2
  go_end0
  exact ⟨rfl, h⟩

set_option maxRecDepth 100000 in
theorem U16_any (wb lim x : Nat) (v : Value) (l : List Nat) (f : Bool) (w : World) (W : WrAt w wb lim v l f) (hx : x < 2 ^ 16) :
    Calls Tryd.prog 56 #[.pointer (some ⟨wb, 0, none⟩), .int .u16 (x : Int)] w fun e w' => e = .returned (.tuple #[]) ∧ Added wb lim v l f (beL x 2) w w' := by
  have HN := hid (number_any wb lim x 2 v l f w W (by omega) (Nat.lt_of_lt_of_le hx (by decide)))
  have h0 : IntKind.u64.wrap (x : Int) = (x : Int) := by rw [IntKind.wrap_u64]; omega
  clear W
  go_enter Tryd.func56, Tryd.ntmps56
  go_wp2_with fail
  refine HN.out.mono ?_
  rintro e w2 ⟨rfl, h⟩
  go_wp2
  go_end0
  exact ⟨rfl, h⟩
end Go.Proofs.YtafkjfpmjhfofaaDoor
