/-
  What the condition of a row of chapter 2 gives that lists the reference's variable too. · Lists of numbers in the laws: Has of the reference, a copy, the comparison. · A struct with an object in front, in memory. · Sweep: with one claim. · The shelf's contracts of this program's sorts, laid in plain words. · The keys of a map of claims, ascending (the numbers 72, 73, 100, 101 of functions are this seat's). · Claimants, general. · A Claims in memory, general: its maps, and what they say. · Sweep, general.
-/
import Derived.Test.YtjgiiciniplbnaaGreatDoorKa3
import Derived.Test.YtjgiiciniplbnaaGreatDoorKa5
import Derived.Test.YtjgiiciniplbnaaGreatDoorKa7
import Derived.Laws.AppendOwnNone
import Derived.Test.YtjgiiciniplbnaaGreatDoorKa9
import Derived.Maps.OwnSet
import Derived.Shelf.SlIterI.Nil
import Derived.Shelf.SortM.Plain
import Derived.Shelf.SortM.SortNone
import Derived.Test.YtjgiiciniplbnaaGreatDoorProg
namespace Go.Proofs.YtjgiiciniplbnaaGreatDoor
open Go Go.RowKit Go.ChangeShapes Go.WideShapes Go.ChangeAt

abbrev laidB : List (String × DataW Unit) := [("stolon/stolonref02.rounds", Rows.laid_stolon_stolonref02_rounds), ("stolon/digest.start", Rows.laid_stolon_digest_start), ("stolon/digest.roundConstants", Rows.laid_stolon_digest_roundConstants)]
theorem gRef : Tryz.prog.globalNamed "stolon/stolonref02.rounds" = some 0 := by kernel_rfl
theorem tRef : (Tryz.prog.globals[0]?).map (·.type) = some 179 := by kernel_rfl
theorem dRef : Rows.laid_stolon_stolonref02_rounds (H := Unit) = Lib.tabData .u32 (shaRound.map fun (n : Nat) => (n : Int)) := by kernel_rfl
theorem both_of_laid {W : World} (h : laidMetH Tryz.prog laidB W) : Vars W shaRound shaStart ∧ Rnds W := by
  rw [MakeChecks.laidMetH_plain _ _ _ (by kernel_rfl)] at h
  have h0 : laidMet Tryz.prog (("stolon/stolonref02.rounds", Lib.tabData .u32 (shaRound.map fun (n : Nat) => (n : Int))) :: ("stolon/digest.start", Lib.tabData .u32 (shaStart.map fun (n : Nat) => (n : Int))) :: ("stolon/digest.roundConstants", Lib.tabData .u32 (shaRound.map fun (n : Nat) => (n : Int))) :: []) W := by
    rw [← dStart, ← dRound]
    exact h
  have h1 := h0.tail
  have h2 := h1.tail
  have r0 := range_of_tab (Lib.tabIs_of_head gRef tRef Tryz.underlying179 Tryz.underlying144 cU32 cRound h0) gRef
  have r1 := range_of_tab (Lib.tabIs_of_head gStart tStart Tryz.underlying180 Tryz.underlying144 cU32 cStart h1) gStart
  have r2 := range_of_tab (Lib.tabIs_of_head gRound tRound Tryz.underlying179 Tryz.underlying144 cU32 cRound h2) gRound
  have b1 : ∀ x ∈ shaStart, x < 4294967296 := by decide
  have b2 : ∀ x ∈ shaRound, x < 4294967296 := by decide
  have hg : ∀ (l : List Nat), (∀ x ∈ l, x < 4294967296) → ∀ i, l.getD i 0 < 4294967296 := fun l hl i => by
    rw [List.getD_eq_getElem?_getD]
    by_cases h : i < l.length
    · rw [List.getElem?_eq_getElem h]; exact hl _ (List.getElem_mem _)
    · rw [List.getElem?_eq_none (by omega)]; decide
  have hc := r2 0 (.int .u32 ((shaRound.getD 0 0 : Nat) : Int)) (by rfl)
  have hc0 := r0 0 (.int .u32 ((shaRound.getD 0 0 : Nat) : Int)) (by rfl)
  exact ⟨⟨r1, r2, World.block_lt_of_cell? _ _ hc, rfl, rfl, hg _ b2, hg _ b1⟩, ⟨r0, World.block_lt_of_cell? _ _ hc0⟩⟩
theorem vars_of_laidB {W : World} (h : laidMetH Tryz.prog laidB W) : Vars W shaRound shaStart := (both_of_laid h).1
theorem rnds_of_laidB {W : World} (h : laidMetH Tryz.prog laidB W) : Rnds W := (both_of_laid h).2
theorem door_metB (os : Os) (args : Array Value) : laidMetH Tryz.prog laidB ((World.doorLaid Tryz.prog 24 os).forCall (fun _ _ => 0) ⟨#[], args, []⟩).memory :=
  laidMetH_of_parts3 (fuel := 8) (laidMet_of_run' 8 (by kernel_rfl) (by kernel_rfl)) (by kernel_rfl) (by kernel_rfl)
end Go.Proofs.YtjgiiciniplbnaaGreatDoor

namespace Go.Proofs.YtjgiiciniplbnaaGreatDoor
open Go Go.RowKit Go.Lib Go.Sort
set_option linter.unusedVariables false

set_option maxRecDepth 100000 in
set_option maxHeartbeats 4000000 in
theorem Has_any (a : Option Addr) (n c : Nat) (li : List Int) (x : Int) (w : World) (hi : Is w (.slice a n c) li) (hsz : n ≤ 1000000) :
    Calls Tryz.prog 56 #[.slice a n c, .int .i64 x] w fun e w' => e = .returned (.bool (li.contains x)) ∧ w = w' := by
  have HI := hid hi
  have hn := hi.lenP
  have HN := hid hn
  obtain ⟨R, hR⟩ : ∃ R, R = li.contains x := ⟨_, rfl⟩
  rw [← hR]
  have HR := hid hR
  clear hi hn hR
  go_enter Tryz.func56, Tryz.ntmps56
  go_wp2
  go_loopw [5] (fun iv wx => ∃ k : Nat, k ≤ n ∧ iv = .int .i64 k ∧ Hid (wx = w) ∧ Hid (∀ q, q < k → li.getD q 0 ≠ x)) (fun iv _ => n - (intOf iv).toNat)
  case atStart => exact ⟨0, by omega, rfl, hid rfl, hid (fun q h => by omega)⟩
  case round =>
    obtain ⟨k, hk, rfl, HW, HA⟩ := hrel
    have hw := HW.out
    subst hw
    by_cases hkn : k < n
    · as_aux_lemma =>
      have hkn' : (k : Int) < (n : Int) := by omega
      obtain ⟨gb, go, rfl, c1⟩ := HI.out.atP k hkn
      have HST := hid (fun (h : li.getD k 0 ≠ x) => (show ∀ q, q < k + 1 → li.getD q 0 ≠ x from fun q hq => by
        rcases Nat.lt_or_ge q k with h2 | h2
        · exact HA.out q h2
        · obtain rfl : q = k := by omega
          exact h))
      have HC := hid (fun (h : li.getD k 0 = x) => (show R = true from by
        rw [HR.out, List.contains_iff_mem, ← h, List.getD_eq_getElem?_getD, List.getElem?_eq_getElem (by rw [← HN.out]; exact hkn)]
        exact List.getElem_mem _))
      generalize li.getD k 0 = y at *
      by_cases hxy : y = x
      · have e1 : (y == x) = true := by simp [hxy]
        have e2 := HC.out hxy
        subst e2
        clear hxy
        go_wp2
        go_ret
        exact ⟨rfl, by trivial⟩
      · have e1 : (y == x) = false := by simp [hxy]
        have HE := hid hxy
        clear hxy
        go_wp2
        exact ⟨⟨k + 1, by omega, by go_num, hid (by trivial), hid (HST.out HE.out)⟩, by simp [intOf]; omega⟩
    · obtain rfl : k = n := by omega
      have hkn' : ¬ (k : Int) < (k : Int) := by omega
      have e : R = false := by
        rw [HR.out, ← Bool.not_eq_true, List.contains_iff_mem]
        intro h
        obtain ⟨q, hq, e⟩ := List.getElem_of_mem h
        exact HA.out q (by rw [HN.out]; exact hq) (by rw [List.getD_eq_getElem?_getD, List.getElem?_eq_getElem hq]; exact e)
      subst e
      go_wp2
      go_ret
      exact ⟨rfl, by trivial⟩

theorem infoZ : (Tryz.prog.info? 3).map (fun i => (i.zero, i.size, i.bytes)) = some (some (.int .i64 0), 1, 8) := by kernel_rfl
theorem is_of_ownsZ {w : World} {base : Nat} {v : Value} {m : Nat} {l : List Int} (h : w.ownsRow base 3 1 v m (i64z l)) (hl : ∀ n ∈ l, (Lit.int .i64 n).wf = true) : ∃ a c, v = .slice a m c ∧ m = l.length ∧ m ≤ c ∧ Is w v l ∧ (a = none → c = 0) ∧ ∀ ad, a = some ad → base ≤ ad.block ∧ ad.block < w.heap.size := by
  obtain ⟨h1, h2⟩ := h
  have hm : m = l.length := by simpa [i64z] using h1.symm
  rcases h2 with ⟨rfl, h0⟩ | ⟨g, cap, cur, rfl, hg, hh, hc, _, hs, ht⟩
  · have hl0 : l = [] := List.eq_nil_of_length_eq_zero (by omega)
    subst hl0; subst h0
    exact ⟨none, 0, rfl, rfl, Nat.le_refl _, ⟨none, 0, rfl, fun n h => absurd h List.not_mem_nil, fun h => absurd rfl h⟩, fun _ => rfl, fun ad h => by cases h⟩
  · refine ⟨_, cap, rfl, hm, hc, ⟨_, cap, by rw [hm], hl, fun _ => ⟨g, 0, rfl, fun i hi => ?_⟩⟩, fun h => (by cases h), fun ad h => (by cases h; exact ⟨hg, lt_of_heap hh⟩)⟩
    rw [Nat.zero_add, cell_of_heap hh]
    have h3 : (cur.toList.take (m * 1))[i]? = (i64z l)[i]? := by rw [ht]
    rw [List.getElem?_take_of_lt (by omega)] at h3
    rw [← Array.getElem?_toList, h3]
    simp [i64z, List.getElem?_eq_getElem hi]
theorem owns_blockZ {w : World} {base size : Nat} {e : TypeId} {v : Value} {m : Nat} {xs : List Value} (h : w.ownsRow base e size v m xs) : ∀ q, v.ownBlock = some q → base ≤ q := fun q hq => by
  obtain ⟨_, h2⟩ := h
  rcases h2 with ⟨rfl, _⟩ | ⟨g, cap, cur, rfl, hg, _⟩
  · cases hq
  · cases hq; exact hg
/-- append(s, x...) of numbers, s a row of one's own -/
theorem wpList_appendZ {w : World} {ops : Array Oper} {rest : List Oper} {o : Oper} {a : Act} {Q : Exit → Act → World → Prop} (hgd : o.guard = none) (s x : Operand)
    (ho : o.op = .call { callee := .builtin .append, args := #[s, x], argTypes := #[27, 27] }) (g0 : Nat) (v0 : Value) (m0 : Nat) (l0 : List Int) (hs : a.eval s = v0) (hown : w.ownsRow g0 3 1 v0 m0 (i64z l0)) (hm0 : m0 ≤ 1000000)
    (sa : Option Addr) (m c : Nat) (l : List Int) (hx : a.eval x = .slice sa m c) (hb : Is w (.slice sa m c) l) (hnil : sa = none → c = 0) (hmc : m ≤ c) (hm : m ≤ 461168601842)
    (hbase : g0 ≤ w.heap.size)
    (h : ∀ v' w', w'.ownsRow g0 3 1 v' (m0 + m) (i64z (l0 ++ l)) → Below g0 w w' → wpList Tryz.prog ops Q rest (a.put o.dst v') w') :
    wpList Tryz.prog ops Q (o :: rest) a w := by
  obtain ⟨i0, hi, hz0, hz1, hz2⟩ := info_parts infoZ
  have hlen := hb.lenP
  cases sa with
  | none =>
    obtain rfl := hnil rfl
    obtain rfl : m = 0 := by omega
    have hl0 : l = [] := List.eq_nil_of_length_eq_zero (by omega)
    subst hl0
    refine Go.wpList_append_own_none hgd s x _ ho g0 _ i0 1 Tryz.underlying27 hi _ m0 (i64z l0) hs hown hx ?_
    exact h _ _ (by simpa using hown) (Below.refl _ _)
  | some ad =>
    have hnews : ∀ j u, (i64z l)[j]? = some u → w.cell? (ad.add j) = some u := fun j u hj => by
      have hjl : j < l.length := by have := (List.getElem?_eq_some_iff.1 hj).1; simpa [i64z] using this
      obtain ⟨b, o, hv, hc⟩ := hb.atP j (by omega)
      simp only [Option.some.injEq] at hv
      subst hv
      have e : (⟨b, o, none⟩ : Addr).add j = ⟨b, o + j, none⟩ := by unfold Addr.add; split <;> simp_all
      rw [e, hc, ← hj]
      simp [i64z, List.getElem?_eq_getElem hjl, List.getD_eq_getElem?_getD]
    refine Go.wpList_append_own _ hgd s x _ ho g0 3 i0 (.int .i64 0) 1 8 Tryz.underlying27 hi hz0 hz1 hz2 rfl (by decide) _ m0 (i64z l0) hs hown ad m c (i64z l) hx (by simp [i64z]; omega) hnews (fun u hu => by
      unfold i64z at hu
      obtain ⟨y, _, rfl⟩ := List.mem_map.1 hu
      rfl) (by unfold maxLen; omega) (by omega) (by omega) ?_
    intro v' w' hown' hg hn
    exact h v' w' (by rw [show i64z (l0 ++ l) = i64z l0 ++ i64z l from by simp [i64z]]; exact hown') ((Below.refl g0 w).grown hg hbase (owns_blockZ hown))
theorem ownsZ_new {w : World} {g0 : Nat} (hg0 : w.heap[g0]? = some (.cells #[] 3 (0, 0))) : w.ownsRow g0 3 1 (.slice (some ⟨g0, 0, none⟩) 0 0) 0 (i64z []) :=
  ⟨rfl, .inr ⟨g0, 0, #[], rfl, Nat.le_refl _, hg0, Nat.le_refl _, Nat.zero_le _, rfl, rfl⟩⟩
theorem Is.wf {w : World} {v : Value} {l : List Int} (h : Is w v l) : ∀ n ∈ l, (Lit.int .i64 n).wf = true := by
  obtain ⟨_, _, _, h, _⟩ := h
  exact h

set_option maxRecDepth 100000 in
set_option maxHeartbeats 2000000 in
theorem ints_any (a : Option Addr) (n c : Nat) (li : List Int) (w : World) (hi : Is w (.slice a n c) li) (hnil : a = none → c = 0) (hnc : n ≤ c) (hsz : n ≤ 1000000) :
    Calls Tryz.prog 23 #[.slice a n c] w fun e w' => ∃ a' c', e = .returned (.slice a' n c') ∧ Is w' (.slice a' n c') li ∧ n ≤ c' ∧ (a' = none → c' = 0) ∧ (∀ ad, a' = some ad → w.heap.size ≤ ad.block) ∧ Below w.heap.size w w' := by
  obtain ⟨w1, hw1⟩ : ∃ y, y = w.alloc (.cells #[] 3) := ⟨_, rfl⟩
  have hb1 : Below w.heap.size w w1 := by rw [hw1]; exact (Below.refl _ _).alloc (Nat.le_refl _) _
  have hg1 : w1.heap[w.heap.size]? = some (.cells #[] 3 (0, 0)) := by rw [hw1]; exact heap_new _ _
  have HI1 := hid (hi.belowP hb1)
  have HWF := hid hi.wf
  have HB1 := hid hb1
  have HG1 := hid hg1
  have HW1 := hid hw1
  clear hi hb1 hg1 hw1
  go_enter Tryz.func23, Tryz.ntmps23
  go_wp2_with (
    (have h0 := HW1.out)
    (rw [← HW1.out])
    (refine wpList_appendZ (by rfl) (.tmp 3) (.tmp 4) (by rfl) w.heap.size _ 0 [] (by rfl) (ownsZ_new HG1.out) (by omega) a n c li (by rfl) HI1.out hnil hnc (by omega) (Nat.le_of_lt (lt_of_heap HG1.out)) ?_)
    (intro v' w' how hk)
    (obtain ⟨a', c', rfl, hm', hmc, hb', hnil', hbl⟩ := is_of_ownsZ how (by simpa using HWF.out))
    (rw [Nat.zero_add] at hb' hmc ⊢)
    (clear hm'))
  go_ret
  refine ⟨a', c', rfl, by simpa using hb', hmc, hnil', fun ad h => (hbl ad h).1, HB1.out.trans hk⟩
theorem eq_of_getD {l m : List Int} (h : l.length = m.length) (k : ∀ q, q < l.length → l.getD q 0 = m.getD q 0) : l = m := by
  apply List.ext_getElem h
  intro i h1 h2
  have := k i h1
  simpa [List.getD_eq_getElem?_getD, List.getElem?_eq_getElem h1, List.getElem?_eq_getElem h2] using this
set_option maxRecDepth 100000 in
set_option maxHeartbeats 4000000 in
theorem same_any (a : Option Addr) (n c : Nat) (li : List Int) (a2 : Option Addr) (n2 c2 : Nat) (lj : List Int) (w : World) (hi : Is w (.slice a n c) li) (hj : Is w (.slice a2 n2 c2) lj) (hsz : n ≤ 1000000) (hsz2 : n2 ≤ 1000000) :
    Calls Tryz.prog 19 #[.slice a n c, .slice a2 n2 c2] w fun e w' => e = .returned (.bool (decide (li = lj))) ∧ Below w.heap.size w w' := by
  have HI := hid hi
  have HJ := hid hj
  have hn := hi.lenP
  have hn2 := hj.lenP
  have HN := hid hn
  have HN2 := hid hn2
  obtain ⟨R, hR⟩ : ∃ R, R = decide (li = lj) := ⟨_, rfl⟩
  rw [← hR]
  have HR := hid hR
  clear hi hj hn hn2 hR
  by_cases hnn : n = n2
  · subst hnn
    have HEQ := hid (fun (h : ∀ q, q < n → li.getD q 0 = lj.getD q 0) => (show R = true from by
      rw [HR.out]
      exact decide_eq_true (eq_of_getD (HN.out.symm.trans HN2.out) (by rw [← HN.out]; exact h))))
    have HNE := hid (fun (q : Nat) (h : li.getD q 0 ≠ lj.getD q 0) => (show R = false from by
      rw [HR.out]
      exact decide_eq_false (fun e => h (by rw [e]))))
    clear HR HN HN2
    go_enter Tryz.func19, Tryz.ntmps19
    go_wp2
    go_loopw [5] (fun iv wx => ∃ k : Nat, k ≤ n ∧ iv = .int .i64 k ∧ Hid (Below w.heap.size w wx) ∧ Hid (∀ q, q < k → li.getD q 0 = lj.getD q 0)) (fun iv _ => n - (intOf iv).toNat)
    case atStart => exact ⟨0, by omega, rfl, hid (Below.refl _ _), hid (fun q h => by omega)⟩
    case round =>
      obtain ⟨k, hk, rfl, HB, HA⟩ := hrel
      by_cases hkn : k < n
      · as_aux_lemma =>
        have hkn' : (k : Int) < (n : Int) := by omega
        obtain ⟨gb, go, rfl, c1⟩ := (HI.out.belowP HB.out).atP k hkn
        obtain ⟨gb2, go2, rfl, c2⟩ := (HJ.out.belowP HB.out).atP k hkn
        have HST := hid (fun (h : li.getD k 0 = lj.getD k 0) => (show ∀ q, q < k + 1 → li.getD q 0 = lj.getD q 0 from fun q hq => by
          rcases Nat.lt_or_ge q k with h2 | h2
          · exact HA.out q h2
          · obtain rfl : q = k := by omega
            exact h))
        have HC := hid (HNE.out k)
        clear HNE HEQ HA HI HJ
        generalize li.getD k 0 = y at *
        generalize lj.getD k 0 = z at *
        by_cases hxy : y = z
        · have e1 : (y == z) = true := by simp [hxy]
          have e2 : (y != z) = false := by simp [hxy]
          have HE := hid (HST.out hxy)
          clear hxy HST HC
          go_wp2
          go_quiet (fail)
          go_wp2
          exact ⟨⟨k + 1, by omega, by go_num, hid (bel_drewN HB.out _), HE⟩, by simp [intOf]; omega⟩
        · have e1 : (y == z) = false := by simp [hxy]
          have e2 : (y != z) = true := by simp [hxy]
          have e3 := HC.out hxy
          subst e3
          clear hxy HC HST
          go_wp2
          go_quiet (fail)
          go_wp2
          go_ret
          exact ⟨rfl, bel_drewN HB.out _⟩
      · obtain rfl : k = n := by omega
        have hkn' : ¬ (k : Int) < (k : Int) := by omega
        have e := HEQ.out HA.out
        subst e
        go_wp2
        go_ret
        exact ⟨rfl, HB.out⟩
  · have e : R = false := by
      rw [HR.out]
      exact decide_eq_false (fun h => hnn (by rw [HN.out, HN2.out, h]))
    subst e
    have h1 : ((n : Int) == (n2 : Int)) = false := by simp; omega
    have h2 : ((n : Int) != (n2 : Int)) = true := by simp; omega
    have h3 : ¬ (n : Int) = (n2 : Int) := by omega
    clear HR HN HN2 hnn
    go_enter Tryz.func19, Tryz.ntmps19
    go_wp2
    go_ret
    exact ⟨rfl, Below.refl _ _⟩
end Go.Proofs.YtjgiiciniplbnaaGreatDoor

namespace Go.Proofs.YtjgiiciniplbnaaGreatDoor
open Go Go.RowKit Go.Lib Go.Sort
set_option linter.unusedVariables false

theorem infoD (obj : List Nat) (ho : obj.length = 32) : (Tryz.prog.info? 23).map (·.size) = some (u8s obj).length := by
  rw [show (u8s obj).length = 32 from by simp [u8s, ho]]; kernel_rfl
theorem infoDA (obj : List Nat) (ho : obj.length = 32) : (Tryz.prog.info? 23).map (·.size) = some (u8s obj).toArray.size := by
  rw [List.size_toArray]; exact infoD obj ho
theorem zeroDA (obj : List Nat) (ho : obj.length = 32) : ((u8s (List.replicate 32 0)).toArray : Array Value).size = (u8s obj).toArray.size := by
  simp [u8s, ho]
theorem oneDA (obj : List Nat) : (u8s obj).toArray.all (·.oneCell') = true := all_oneCell_toArray (u8s_oneH _)
theorem load_dig {w : World} {b : Nat} {obj : List Nat} (ho : obj.length = 32) (h : OwnD w b obj) : (loadVar 23 ⟨b, 0, none⟩).run Tryz.prog w = .ok (.agg (u8s obj).toArray) w :=
  run_loadVar_mid (P := Tryz.prog) w b 0 23 (u8s obj) _ (range_own h) Tryz.underlying23 rfl (infoD obj ho)
theorem box_cell {w : World} {b : Nat} {obj : List Nat} {vals : List Value} {T : TypeId} (h : w.heap[b]? = some (.cells (u8s obj ++ vals).toArray T (0, 0))) (ho : obj.length = 32) (j : Nat) (v : Value) (hj : vals[j]? = some v) : w.cell? ⟨b, 32 + j, none⟩ = some v := by
  rw [cell_of_heap h, List.getElem?_toArray, List.getElem?_append_right (by simp [u8s, ho])]
  simpa [u8s, ho] using hj
theorem box_dig {w : World} {b : Nat} {obj : List Nat} {vals : List Value} {T : TypeId} (h : w.heap[b]? = some (.cells (u8s obj ++ vals).toArray T (0, 0))) (ho : obj.length = 32) : (loadVar 23 ⟨b, 0, none⟩).run Tryz.prog w = .ok (.agg (u8s obj).toArray) w :=
  run_loadVar_mid (P := Tryz.prog) w b 0 23 (u8s obj) _ (fun j v hj => by
    rw [Nat.zero_add, cell_of_heap h, List.getElem?_toArray, List.getElem?_append_left (by
      have := (List.getElem?_eq_some_iff.1 hj).1
      exact this)]
    exact hj) Tryz.underlying23 rfl (infoD obj ho)
end Go.Proofs.YtjgiiciniplbnaaGreatDoor

namespace Go.Proofs.YtjgiiciniplbnaaGreatDoor
open Go Go.RowKit Go.Lib Go.Sort
open Go.Maps (Keyed)
set_option linter.unusedVariables false

/-- all but two blocks are as before -/
structure Kept2 (x y : Nat) (w w' : World) : Prop where
  os : w'.os = w.os
  tape : w'.tape = w.tape
  output : w'.output = w.output
  size : w.heap.size ≤ w'.heap.size
  block : ∀ k, k < w.heap.size → k ≠ x → k ≠ y → w'.heap[k]? = w.heap[k]?
theorem Kept2.refl (x y : Nat) (w : World) : Kept2 x y w w := ⟨rfl, rfl, rfl, Nat.le_refl _, fun _ _ _ _ => rfl⟩
theorem Kept2.grown {x y : Nat} {w a b : World} (h : Kept2 x y w a) {row : Option Nat} (g : a.grownBy b row) (hr : ∀ q, row = some q → q = x ∨ q = y ∨ w.heap.size ≤ q) : Kept2 x y w b :=
  ⟨g.os.trans h.os, g.tape.trans h.tape, g.output.trans h.output, Nat.le_trans h.size g.size, fun k hk h1 h2 => (g.block k (Nat.lt_of_lt_of_le hk h.size) (fun e => by
    rcases hr k e.symm with h3 | h3 | h3
    · exact h1 h3
    · exact h2 h3
    · omega)).trans (h.block k hk h1 h2)⟩
theorem grown_below {w w' : World} (h : Below w.heap.size w w') : w.grownBy w' none := ⟨h.os, h.tape, h.output, h.size, fun k hk _ => h.block k hk⟩
theorem Kept2.below {x y B : Nat} {w w' : World} (h : Kept2 x y w w') (hB : B ≤ w.heap.size) (hx : B ≤ x) (hy : B ≤ y) : Below B w w' :=
  (⟨h.os, h.tape, h.output, h.size, fun k hk => h.block k (Nat.lt_of_lt_of_le hk hB) (by omega) (by omega)⟩ : Below B w w')
/-- a delete in a range, as a step of a region -/
theorem step_delete_ranges {H : Type} {P : Program} {w : World} {ops : Array Oper} {o : Oper} {a : Act} {K : Act → World → Prop} {Q : Exit → Act → World → Prop} {E : Prop}
    (hg : o.guard = none) (m x : Operand) (t k : TypeId) (hop : o.op = Op.call { callee := Callee.builtin Builtin.delete, args := #[m, x], argTypes := #[t, k] })
    (e : TypeId) (KK : Keyed P k) (ht : P.underlying t = some (.map k e)) (R : Value → Option (DataW H × List MemPlace)) (b r n : Nat) (D : DataW H) (left : Lit → Bool) (cnt : Nat)
    (hm : a.eval m = .map (some b)) (h : w.ranges P k R b r n D left cnt) (key : Value) (kl : Lit) (hx : a.eval x = key) (hkey : keyOf P k key = some kl)
    (hK : ∀ w' cnt', w'.ranges P k R b r n (D.del kl) (fun z => left z && !z.sameKey kl) cnt' → cnt' ≤ cnt → w.mapTurned w' b → K (a.put o.dst (.tuple #[])) w') : if Region.wanted o (yielded ops a.tmps) = true then Oper.wp P o a w K Q else E := by
  rw [if_pos (by simp [Region.wanted, hg])]
  obtain ⟨w', cnt', hrun, r1, r2, r3⟩ := h.drop KK ht hkey o.type
  unfold Oper.wp
  simp [execOp, hop, resolve, invoke, builtin, hm, hx, hrun, Result.andThen]
  exact hK w' cnt' r1 r2 r3
/-- a claim noted at t counts at a clock -/
def curr (t clock : Int) : Bool := decide (t ≤ clock) && decide (clock - t < 12)
theorem one_has {k : Lit} {d : DataW Unit} (hk : WideAt.IsKeyLit k) : ∀ k', Maps.has ((DataW.map []).put k d) k' = true → k' = k := fun k' h => by
  by_cases e : k' = k
  · exact e
  · rw [Maps.has_put_other e] at h
    cases h
theorem one_size {k : Lit} {d : DataW Unit} (hk : WideAt.IsKeyLit k) : Maps.size ((DataW.map []).put k d) = 1 ∧ Maps.size (((DataW.map []).put k d).del k) = 0 ∧ Maps.has (((DataW.map []).put k d).del k) k = false := by
  have h1 : Maps.size ((DataW.map []).put k d) = 1 := by
    rw [Maps.size_put Maps.tidy_empty]
    rfl
  have h2 := Maps.size_del (k := k) (Maps.tidy_empty.put hk d)
  rw [Maps.has_put_same Maps.isMap_empty hk, h1] at h2
  refine ⟨h1, ?_, Maps.has_del_same⟩
  simpa using h2
set_option maxRecDepth 100000 in
set_option maxHeartbeats 16000000 in
theorem Sweep_one (obj : List Nat) (ho : obj.length = 32) (kl : Lit) (hkl : keyOf Tryz.prog 23 (.agg (u8s obj).toArray) = some kl) (p : Nat) (hp : p < 16) (t : Int) (ht0 : 0 ≤ t) (ht1 : t < 18446744073709551616) (cb ob ib : Nat)
    (clock : Int) (hc0 : 0 ≤ clock) (hc1 : clock < 18446744073709551616) (w : World) (hc : Cl1 w cb ob ib kl p t) :
    Calls Tryz.prog 35 #[.pointer (some ⟨cb, 0, none⟩), .int .u64 clock] w fun e w' => e = .returned (.tuple #[]) ∧ Kept2 ob ib w w' ∧
      ((curr t clock = true ∧ Cl1 w' cb ob ib kl p t) ∨ (curr t clock = false ∧ w'.heap[cb]? = some (.cells #[.map (some ob)] 130 (0, 0)) ∧ w'.ownsMap Tryz.prog 23 mapR ob 1 (((DataW.map []).put kl (.lit (.int .i64 (ib : Int)))).del kl))) := by
  obtain ⟨c1, c2, c3, n1, n2, n3⟩ := hc
  have hcell : w.cell? ⟨cb, 0, none⟩ = some (.map (some ob)) := cell_of_heap c1 0
  have HKL := hid hkl
  have HC1 := hid c1
  have HC2 := hid c2
  have HC3 := hid c3
  have hcb := lt_of_heap c1
  have hob := c2.lt
  have hib := c3.lt
  obtain ⟨CU, hCU⟩ : ∃ y, y = curr t clock := ⟨_, rfl⟩
  have HCU := hid (fun wx => isCurrent_any t clock ht0 ht1 hc0 hc1 wx)
  have hCU2 : (decide (t ≤ clock) && decide (clock - t < 12)) = CU := hCU.symm
  rw [hCU2] at HCU
  rw [← hCU]
  obtain ⟨kp, hkp⟩ : ∃ y : Lit, y = .int .i64 (p : Int) := ⟨_, rfl⟩
  have HKP0 := hid hkp
  have hwp : (Lit.int .i64 (p : Int)).wf = true := by
    have e1 : IntKind.i64.min = -9223372036854775808 := rfl
    have e2 : IntKind.i64.max = 9223372036854775807 := rfl
    simp only [Lit.wf, Bool.and_eq_true, decide_eq_true_eq]
    omega
  have HKEYP := hid (show keyOf Tryz.prog 3 (.int .i64 (p : Int)) = some kp from by
    rw [hkp]
    exact Maps.keyOf_int_mk Tryz.underlying3 hwp)
  have hikp : WideAt.IsKeyLit kp := by rw [hkp]; trivial
  have hikl : WideAt.IsKeyLit kl := keyedD.key hkl
  obtain ⟨D1, hD1⟩ : ∃ y : DataW Unit, y = (DataW.map []).put kl (.lit (.int .i64 (ib : Int))) := ⟨_, rfl⟩
  obtain ⟨I1, hI1⟩ : ∃ y : DataW Unit, y = (DataW.map []).put kp (.lit (.int .u64 t)) := ⟨_, rfl⟩
  have HD1 := hid hD1
  have HI1 := hid hI1
  have HSUB := hid (show ∀ kl', Maps.has D1 kl' = true → kl' = kl from by rw [hD1]; exact one_has hikl)
  have HSUI := hid (show ∀ kl', Maps.has I1 kl' = true → kl' = kp from by rw [hI1]; exact one_has hikp)
  have HHD := hid (show Maps.has D1 kl = true from by rw [hD1]; exact Maps.has_put_same Maps.isMap_empty hikl _)
  have HHI := hid (show Maps.has I1 kp = true from by rw [hI1]; exact Maps.has_put_same Maps.isMap_empty hikp _)
  have HAD := hid (show D1.atKey kl .nil = .lit (.int .i64 (ib : Int)) from by rw [hD1]; exact Maps.atKey_put_same Maps.isMap_empty hikl _ _)
  have HAI := hid (show I1.atKey kp .nil = .lit (.int .u64 t) from by rw [hI1]; exact Maps.atKey_put_same Maps.isMap_empty hikp _ _)
  have HSI := hid (show Maps.size I1 = 1 ∧ Maps.size (I1.del kp) = 0 from by rw [hI1]; exact ⟨(one_size hikp).1, (one_size hikp).2.1⟩)
  rw [← hkp, ← hI1] at HC3
  rw [← hD1] at HC2 ⊢
  obtain ⟨OB, hOB⟩ : ∃ y, y = (u8s obj).toArray := ⟨_, rfl⟩
  rw [← hOB] at HKL
  have HOB := hid hOB
  have HIFI := hid (infoDA obj ho)
  have HSZI := hid (zeroDA obj ho)
  have HONE := hid (oneDA obj)
  rw [← hOB] at HIFI HSZI HONE
  have HIF := hid (infoD obj ho)
  clear c1 c2 c3 hkl hCU hCU2 hkp hD1 hI1 hOB hwp
  go_enter Tryz.func35, Tryz.ntmps35
  go_wp2_with (first
    | (at_range; refine wpList_range_own _ rfl _ 128 rfl 23 132 keyedD Tryz.underlying128 mapR ob 1 _ rfl HC2.out ?_; intro w0 hrg0 hg0 hs0)
    | go_in)
  go_frame
  obtain ⟨r, hr⟩ : ∃ y, y = w.heap.size := ⟨_, rfl⟩
  rw [← hr] at hrg0 ⊢
  have HRG0 := hid hrg0
  have hk0 := (Kept2.refl ob ib w).grown hg0 (fun q hq => by cases hq)
  have HK0 := hid hk0
  have HOR0 := hid (show (D1 = D1 ∧ w0.ownsMap (H := Unit) Tryz.prog 3 (plainElem Tryz.prog 43) ib 1 I1 ∧ (Maps.has D1 kl = false → CU = true)) ∨ (D1 = D1.del kl ∧ Maps.has D1 kl = false ∧ CU = false) from
    .inl ⟨rfl, HC3.out.kept hg0 (by simp), fun h => by rw [HHD.out] at h; cases h⟩)
  have hrw : w.heap.size ≤ r := by omega
  clear hrg0 hg0 hs0 hk0 hcell hr
  go_loopw [4] (fun _ wr => ∃ (left : Lit → Bool) (cnt : Nat) (D2 : DataW Unit), Hid (wr.ranges Tryz.prog 23 mapR ob r 1 D2 left cnt) ∧ Hid (Kept2 ob ib w wr) ∧ Hid (∀ kl', left kl' = true → kl' = kl) ∧ Hid ((D2 = D1 ∧ wr.ownsMap (H := Unit) Tryz.prog 3 (plainElem Tryz.prog 43) ib 1 I1 ∧ (left kl = false → CU = true)) ∨ (D2 = D1.del kl ∧ left kl = false ∧ CU = false))) (fun _ wr => wr.rangeLeft ob r)
  case atStart => exact ⟨_, _, _, HRG0, HK0, HSUB, HOR0⟩
  case round =>
    clear HRG0 HK0 HOR0
    obtain ⟨left, cnt, D2, HRG, HKW, HL, HOR⟩ := hrel
    obtain ⟨wo, rfl⟩ : ∃ y : World, y = wr := ⟨_, rfl⟩
    have HNE := hid HRG.out.ne
    have HRLT := hid HRG.out.lt
    go_wp2_with (first
      | (at_next; refine wpList_next_ranges _ rfl _ rfl 23 keyedD mapR (fun x : Value => x) Value.map (fun key kl h => ⟨key, rfl⟩) (fun v y h => mapR_inv h) ob r 1 _ _ _ rfl HRG.out ?_ ?_)
      | go_in)
    · intro _ hl0
      have HL0 := hid hl0
      clear hl0
      go_wp2
      go_end0
      refine ⟨rfl, HKW.out, ?_⟩
      rcases HOR.out with ⟨h1, h2, h3⟩ | ⟨h1, h2, h3⟩
      · refine .inl ⟨h3 (HL0.out _), ⟨(HKW.out.block cb hcb (by omega) (by omega)).trans HC1.out, ?_, ?_, n1, n2, n3⟩⟩
        · have h4 := HRG.out.owns
          rw [h1, HD1.out] at h4
          exact h4
        · rw [HI1.out, HKP0.out] at h2
          exact h2
      · refine .inr ⟨h3, (HKW.out.block cb hcb (by omega) (by omega)).trans HC1.out, ?_⟩
        have h4 := HRG.out.owns
        rw [h1] at h4
        exact h4
    · intro x c kl' y1 yp w1 cnt1 hkx hlx hRc hat hrg1 hlt1 hg1 hs1 hen
      have ek := HL.out _ hlx
      subst ek
      have ex := keyedD.inj hkx HKL.out
      subst ex
      obtain ⟨e2, hown, hcu⟩ : D2 = D1 ∧ wo.ownsMap (H := Unit) Tryz.prog 3 (plainElem Tryz.prog 43) ib 1 I1 ∧ (left kl' = false → CU = true) := HOR.out.elim (fun h => h) (fun h => by rw [hlx] at h; cases h.2.1)
      subst e2
      have hat2 := hat .nil
      rw [HAD.out] at hat2
      obtain rfl : y1 = .lit (.int .i64 (ib : Int)) := hat2.symm
      have ec := mapR_some hRc
      simp only [Value.map.injEq] at ec
      subst ec
      have hown1 := hown.kept hg1 (by intro e; simp at e; omega)
      have HOWN1 := hid hown1
      have HK1 := hid (HKW.out.grown hg1 (fun q hq => by cases hq; exact .inr (.inr hrw)))
      have HRG1 := hid hrg1
      have HLT1 := hid (show w1.rangeLeft ob r < wo.rangeLeft ob r from by rw [hrg1.left_eq, HRG.out.left_eq]; exact hlt1)
      have hcell1 : w1.cell? ⟨cb, 0, none⟩ = some (.map (some ob)) := cell_of_heap ((HK1.out.block cb hcb (by omega) (by omega)).trans HC1.out) 0
      have HLT0 := hid hlt1
      have HEN := hid hen
      have HLX := hid hlx
      clear hat hrg1 hlt1 hg1 hs1 hen hown hown1 hkx hRc hat2
      have hen1 : (Instr.entry (.pointer (some ⟨r, 0, none⟩))).run Tryz.prog w1 = .ok (.tuple #[.agg OB, .map (some ib)]) w1 := HEN.out
      go_upto_region 4 with (first
        | (refine wpList_store_row (by rfl) 23 (.tmp 4) (.tmp 18) (by rfl) w1.heap.size (u8s (List.replicate 32 0)).toArray OB 23 (by rfl) (by rfl) (heap_new w1 _) HIFI.out HSZI.out HONE.out ?_
           intro w2 hw2 hk2)
        | go_in)
      have hb12 : Below w1.heap.size w1 w2 := ((Below.refl w1.heap.size w1).alloc (Nat.le_refl _) (.cells (u8s (List.replicate 32 0)).toArray 23)).trans (hk2.below (by simp) (Nat.le_refl _))
      obtain ⟨kb, hkb⟩ : ∃ y, y = w1.heap.size := ⟨_, rfl⟩
      rw [← hkb] at hw2 ⊢
      have HNIR := hid (show ib ≠ r from by have := hib; omega)
      have HKB1 := hid (show w.heap.size ≤ kb ∧ kb ≠ r ∧ kb ≠ ob ∧ kb ≠ ib from ⟨by have := HK1.out.size; omega, by have := HRG1.out.lt; omega, by have := HRG1.out.owns.lt; omega, by have := HOWN1.out.lt; omega⟩)
      have HOWN2 := hid (ownsMap_below HOWN1.out hb12)
      have HRG2 := hid (HRG1.out.kept (grown_below hb12) (by simp) (by simp))
      have HK2 := hid (HK1.out.grown (grown_below hb12) (fun q hq => by cases hq))
      have HW2 := hid hw2
      clear hw2 hk2 hb12 hkb hcell1 hen1
      go_wp2_with (first
        | (at_range; refine wpList_range_own _ rfl _ 132 rfl 3 43 keyedI Tryz.underlying132 (plainElem (H := Unit) Tryz.prog 43) ib 1 _ rfl HOWN2.out ?_; intro w3 hrg3 hg3 hs3)
        | go_in)
      try go_frame
      obtain ⟨r2, hr2⟩ : ∃ y, y = w2.heap.size := ⟨_, rfl⟩
      rw [← hr2] at hrg3 ⊢
      have HRI3 := hid hrg3
      have HRO3 := hid (HRG2.out.kept hg3 (by simp) (by simp))
      have HK3 := hid (HK2.out.grown hg3 (fun q hq => by cases hq))
      have HW3 := hid ((hg3.block kb (lt_of_heap HW2.out) (by simp)).trans HW2.out)
      have HR2 := hid (show w.heap.size ≤ r2 ∧ r2 ≠ r ∧ r2 ≠ ob ∧ r2 ≠ ib ∧ r2 ≠ kb from ⟨by have := HK2.out.size; omega, by have := HRG2.out.lt; omega, by have := HRG2.out.owns.lt; omega, by have := HOWN2.out.lt; omega, by have := lt_of_heap HW2.out; omega⟩)
      have HOI3 := hid (show (I1 = I1 ∧ (Maps.has I1 kp = false → CU = true)) ∨ (I1 = I1.del kp ∧ Maps.has I1 kp = false ∧ CU = false) from .inl ⟨rfl, fun h => by rw [HHI.out] at h; cases h⟩)
      clear hrg3 hg3 hs3 hr2
      go_loopw [6] (fun _ wx => ∃ (li : Lit → Bool) (ci : Nat) (DI : DataW Unit), Hid (wx.ranges Tryz.prog 3 (plainElem (H := Unit) Tryz.prog 43) ib r2 1 DI li ci) ∧ Hid (wx.ranges Tryz.prog 23 mapR ob r 1 D2 (fun z => left z && !z.sameKey kl') cnt1) ∧ Hid (Kept2 ob ib w wx) ∧ Hid (wx.heap[kb]? = some (.cells OB 23 (0, 0))) ∧ Hid (∀ k', li k' = true → k' = kp) ∧ Hid ((DI = I1 ∧ (li kp = false → CU = true)) ∨ (DI = I1.del kp ∧ li kp = false ∧ CU = false))) (fun _ wx => wx.rangeLeft ib r2)
      case atStart => exact ⟨_, _, _, HRI3, HRO3, HK3, HW3, HSUI, HOI3⟩
      case round =>
        clear HRI3 HRO3 HK3 HW3 HOI3 HRG2 HK2 HW2 HOWN2 HRG1 HK1 HOWN1
        obtain ⟨li, ci, DI, HRI, HRO, HKI, HWI, HSI2, HOI⟩ := hrel
        obtain ⟨wx, rfl⟩ : ∃ y : World, y = wr := ⟨_, rfl⟩
        go_wp2_with (first
          | (at_next; refine wpList_next_ranges_ii _ rfl _ rfl 3 43 .i64 .u64 keyedI Tryz.underlying3 Tryz.underlying43 ib r2 1 _ _ _ rfl HRI.out ?_ ?_)
          | go_in)
        · intro _ hli0
          have HLI0 := hid hli0
          clear hli0
          have HLL := hid (show ∀ z, (fun z => left z && !z.sameKey kl') z = true → z = kl' from fun z h => HL.out z (by simp only [Bool.and_eq_true] at h; exact h.1))
          have HMS := hid (show wx.rangeLeft ob r < wo.rangeLeft ob r from by rw [HRO.out.left_eq, HRG.out.left_eq]; exact HLT0.out)
          have HSK := hid (show (fun z => left z && !z.sameKey kl') kl' = false from by simp [WideAt.sameKey_self (show WideAt.IsKeyLit kl' from keyedD.key HKL.out)])
          rcases HOI.out with ⟨e1, e2⟩ | ⟨e1, e2, e3⟩
          · have hsz : Maps.size DI = 1 := by rw [e1]; exact HSI.out.1
            have HOR5 := hid (show (D2 = D2 ∧ wx.ownsMap (H := Unit) Tryz.prog 3 (plainElem Tryz.prog 43) ib 1 I1 ∧ ((fun z => left z && !z.sameKey kl') kl' = false → CU = true)) ∨ (D2 = D2.del kl' ∧ (fun z => left z && !z.sameKey kl') kl' = false ∧ CU = false) from .inl ⟨rfl, by rw [← e1]; exact HRI.out.owns, fun _ => e2 (HLI0.out _)⟩)
            clear e1 e2
            go_wp2_with (first
              | (at_len; refine wpList_len_own _ rfl _ 132 rfl 3 43 Tryz.underlying132 (plainElem (H := Unit) Tryz.prog 43) ib 1 _ rfl HRI.out.owns ?_; rw [hsz])
              | go_in)
            exact ⟨⟨_, _, _, HRO, HKI, HLL, HOR5⟩, HMS.out⟩
          · have hsz : Maps.size DI = 0 := by rw [e1]; exact HSI.out.2
            have HCF := hid e3
            clear e1 e2 e3
            go_upto_region 10 with (first
              | (at_len; refine wpList_len_own _ rfl _ 132 rfl 3 43 Tryz.underlying132 (plainElem (H := Unit) Tryz.prog 43) ib 1 _ rfl HRI.out.owns ?_; rw [hsz])
              | go_in)
            have HSS := hid (show ∀ wy : World, wy.heap[cb]? = wx.heap[cb]? → wy.heap[kb]? = wx.heap[kb]? → wy.cell? ⟨cb, 0, none⟩ = some (.map (some ob)) ∧ (loadVar 23 ⟨kb, 0, none⟩).run Tryz.prog wy = .ok (.agg OB) wy from fun wy h1 h2 => by
              refine ⟨cell_of_heap ((h1.trans (HKI.out.block cb hcb (by omega) (by omega))).trans HC1.out) 0, ?_⟩
              have h3 := h2.trans HWI.out
              rw [HOB.out] at h3 ⊢
              exact run_loadVar_mid (P := Tryz.prog) wy kb 0 23 (u8s obj) _ (range_of_heapI h3) Tryz.underlying23 rfl HIF.out)
            refine wp_region_held_drew (S := (fun wy : World => wy.cell? ⟨cb, 0, none⟩ = some (.map (some ob)) ∧ (loadVar 23 ⟨kb, 0, none⟩).run Tryz.prog wy = .ok (.agg OB) wy)) (by kernel_rfl) (HSS.out _ ((bel_drewN (Below.refl wx.heap.size wx) 1).block cb (Nat.lt_of_lt_of_le hcb HKI.out.size)) ((bel_drewN (Below.refl wx.heap.size wx) 1).block kb (lt_of_heap HWI.out))) (fun hHeld => ?_)
            refine wpAnyH_take (i := 0) (oi := { dst := some 36, op := Op.move (Operand.tmp 0), type := 40, pos := "claims.go:65", after := #[], guard := none }) (v := ?_) rfl (by kernel_rfl) (by kernel_rfl) (by kernel_rfl) (fun _ _ _ h => h) (Or.inl ⟨by rfl, ?hy⟩) hHeld ?_
            case hy => (intro w hSw; (try dsimp only at hSw); obtain ⟨_, _⟩ := hSw; go_simp; all_goals (with_reducible rfl))
            try simp only [Act.put, List.setIfInBounds_toArray, List.set_cons_zero, List.set_cons_succ]
            refine wpAnyH_take (i := 1) (oi := { dst := some 37, op := Op.nilCheck (Operand.tmp 36), type := 0, pos := "claims.go:65", after := #[{ on := 0, ground := Ground.data }], guard := none }) (v := ?_) rfl (by kernel_rfl) (by kernel_rfl) (by kernel_rfl) (fun _ _ _ h => h) (Or.inl ⟨by rfl, ?hy⟩) hHeld ?_
            case hy => (intro w hSw; (try dsimp only at hSw); obtain ⟨_, _⟩ := hSw; go_simp; all_goals (with_reducible rfl))
            try simp only [Act.put, List.setIfInBounds_toArray, List.set_cons_zero, List.set_cons_succ]
            refine wpAnyH_take (i := 2) (oi := { dst := some 38, op := Op.fieldAddr 130 (Operand.tmp 37) 0, type := 0, pos := "claims.go:65", after := #[{ on := 1, ground := Ground.data }], guard := none }) (v := ?_) rfl (by kernel_rfl) (by kernel_rfl) (by kernel_rfl) (fun _ _ _ h => h) (Or.inl ⟨by rfl, ?hy⟩) hHeld ?_
            case hy => (intro w hSw; (try dsimp only at hSw); obtain ⟨_, _⟩ := hSw; go_simp; all_goals (with_reducible rfl))
            try simp only [Act.put, List.setIfInBounds_toArray, List.set_cons_zero, List.set_cons_succ]
            refine wpAnyH_take (i := 3) (oi := { dst := some 39, op := Op.load 128 (Operand.tmp 38), type := 128, pos := "claims.go:65", after := #[{ on := 2, ground := Ground.data }], guard := none }) (v := ?_) rfl (by kernel_rfl) (by kernel_rfl) (by kernel_rfl) (fun _ _ _ h => h) (Or.inl ⟨by rfl, ?hy⟩) hHeld ?_
            case hy => (intro w hSw; (try dsimp only at hSw); obtain ⟨_, _⟩ := hSw; go_simp; all_goals (with_reducible rfl))
            try simp only [Act.put, List.setIfInBounds_toArray, List.set_cons_zero, List.set_cons_succ]
            refine wpAnyH_take (i := 4) (oi := { dst := some 40, op := Op.load 23 (Operand.tmp 4), type := 23, pos := "claims.go:65", after := #[], guard := none }) (v := .agg OB) rfl (by kernel_rfl) (by kernel_rfl) (by kernel_rfl) (fun _ _ _ h => h) (Or.inl ⟨by rfl, ?hy⟩) hHeld ?_
            case hy => (intro w hSw; exact run_load_opP hSw.2)
            try simp only [Act.put, List.setIfInBounds_toArray, List.set_cons_zero, List.set_cons_succ]
            refine wpAnyH_ready (rs := [5]) (by kernel_rfl) (by simp) ?_
            refine AllReadyH.cons (o := { dst := none, op := Op.call { callee := Callee.builtin Builtin.delete, args := #[Operand.tmp 39, Operand.tmp 40], argTypes := #[128, 23] }, type := 0, pos := "claims.go:65", after := #[{ on := 3, ground := Ground.data }, { on := 4, ground := Ground.data }], guard := none }) rfl (fun K hK => ?_) AllReadyH.nil
            refine step_delete_ranges rfl (.tmp 39) (.tmp 40) 128 23 rfl 132 keyedD Tryz.underlying128 mapR ob r 1 _ _ _ rfl (HRO.out.kept (grown_below (bel_drewN (Below.refl wx.heap.size wx) 1)) (by simp) (by simp)) (.agg OB) kl' rfl HKL.out ?_
            intro w6 cnt6 hrg6 hle6 hturn6
            have HG6 := hid hturn6.grown
            have HR6 := hid hrg6
            have HK6 := hid ((HKI.out.grown (grown_below (bel_drewN (Below.refl wx.heap.size wx) 1)) (fun q hq => by cases hq)).grown HG6.out (fun q hq => by cases hq; exact .inl rfl))
            have HM6 := hid (show w6.rangeLeft ob r < wo.rangeLeft ob r from by rw [hrg6.left_eq, HRG.out.left_eq]; have := HLT0.out; omega)
            clear hrg6 hle6 hturn6
            refine hK.out _ _ (HSS.out _ ((HG6.out.block cb (Nat.lt_of_lt_of_le hcb HKI.out.size) (by simp; omega)).trans ((bel_drewN (Below.refl wx.heap.size wx) 1).block cb (Nat.lt_of_lt_of_le hcb HKI.out.size))) ((HG6.out.block kb (lt_of_heap HWI.out) (by have := HKB1.out; simp; omega)).trans ((bel_drewN (Below.refl wx.heap.size wx) 1).block kb (lt_of_heap HWI.out)))) (fun hHeld => ?_)
            clear hK K
            try simp only [Act.put]
            refine wpAnyH_done (by kernel_rfl) ?_ _
            go_wp2_with fail
            exact ⟨⟨_, _, _, HR6, HK6, hid (fun z h => HLL.out z (by simp only [Bool.and_eq_true] at h ⊢; exact h.1)), hid (.inr ⟨rfl, by simp [WideAt.sameKey_self (show WideAt.IsKeyLit kl' from keyedD.key HKL.out)], HCF.out⟩)⟩, HM6.out⟩
        · intro x c w4 cnt4 hwx hwc hlx4 hat4 hrg4 hlt4 hg4 hs4 hen4
          have ex := HSI2.out _ hlx4
          rw [HKP0.out] at ex
          simp only [Lit.int.injEq, true_and] at ex
          obtain ⟨eD, eC⟩ : DI = I1 ∧ (li kp = false → CU = true) := HOI.out.elim (fun h => h) (fun h => by
            have h1 := HSI2.out _ hlx4
            rw [h1, h.2.1] at hlx4
            cases hlx4)
          have hat5 := hat4 .nil
          rw [eD, ex, ← HKP0.out, HAI.out] at hat5
          simp only [DataW.lit.injEq, Lit.int.injEq, true_and] at hat5
          rw [ex, ← HKP0.out] at hrg4
          subst ex
          subst hat5
          have HRI4 := hid hrg4
          have HRO4 := hid (HRO.out.kept hg4 (by have := HR2.out; simp; omega) (by have := HR2.out; simp; omega))
          have HKI4 := hid (HKI.out.grown hg4 (fun q hq => by cases hq; exact .inr (.inr HR2.out.1)))
          have HWI4 := hid ((hg4.block kb (lt_of_heap HWI.out) (by have := HR2.out; simp; omega)).trans HWI.out)
          have HSL := hid (show ∀ z, (fun z => li z && !z.sameKey kp) z = true → z = kp from fun z h => HSI2.out z (by simp only [Bool.and_eq_true] at h; exact h.1))
          have HSK4 := hid (show (fun z => li z && !z.sameKey kp) kp = false from by simp [WideAt.sameKey_self hikp])
          have HM4 := hid (show w4.rangeLeft ib r2 < wx.rangeLeft ib r2 from by rw [hrg4.left_eq, HRI.out.left_eq]; exact hlt4)
          have HLT4 := hid hlt4
          have HED := hid eD
          have HIL := hid HRI.out.left_eq
          clear hat4 hrg4 hlt4 hg4 hs4 eD eC hlx4 HOI HRI HRO HKI HWI
          rcases Bool.eq_false_or_eq_true CU with hcu | hcu
          · have h6 := HCU.out w4
            rw [hcu] at h6
            have HCT := hid hcu
            have HH := hid h6
            clear hcu h6
            go_wp2_with fail
            refine HH.out.mono ?_
            rintro e w5 ⟨rfl, rfl⟩
            go_wp2_with fail
            exact ⟨⟨_, _, _, HRI4, HRO4, HKI4, HWI4, HSL, hid (.inl ⟨HED.out, fun _ => HCT.out⟩)⟩, HM4.out⟩
          · have h6 := HCU.out w4
            rw [hcu] at h6
            have HCT := hid hcu
            have HH := hid h6
            clear hcu h6
            go_wp2_with fail
            refine HH.out.mono ?_
            rintro e w5 ⟨rfl, rfl⟩
            go_wp2_with (first
              | (at_delete; refine wpList_delete_ranges _ rfl _ _ 132 3 rfl 43 keyedI Tryz.underlying132 (plainElem (H := Unit) Tryz.prog 43) ib r2 1 _ _ _ rfl HRI4.out _ kp rfl HKEYP.out ?_
                 intro w5 cnt5 hrg5 hle5 hturn5
                 have HRI5 := hid hrg5
                 have HG5 := hid hturn5.grown
                 have HM5 := hid (show w5.rangeLeft ib r2 < wx.rangeLeft ib r2 from by rw [hrg5.left_eq, HIL.out]; have := HLT4.out; omega)
                 clear hrg5 hle5 hturn5
                 simp only [Act.put])
              | go_in)
            exact ⟨⟨_, _, _, HRI5, hid (HRO4.out.kept HG5.out (by simp; omega) (by simp; exact fun e => HNIR.out e.symm)), hid (HKI4.out.grown HG5.out (fun q hq => by cases hq; exact .inr (.inl rfl))), hid ((HG5.out.block kb (lt_of_heap HWI4.out) (by have := HKB1.out; simp; omega)).trans HWI4.out), hid (fun z h => HSL.out z (by simp only [Bool.and_eq_true] at h ⊢; exact h.1)), hid (.inr ⟨by rw [HED.out], by simp [WideAt.sameKey_self hikp], HCT.out⟩)⟩, HM5.out⟩
end Go.Proofs.YtjgiiciniplbnaaGreatDoor

namespace Go.Proofs
open Go.Shelf
def Tryz.keysI_ren : Go.Shelf.Ren := ⟨fun | 7 => 73 | 10 => 101 | n => n, fun | 23 => 132 | 26 => 3 | 3 => 43 | 28 => 139 | 0 => 0 | 27 => 138 | 33 => 131 | 4 => 4 | n => n, fun | n => n⟩
theorem Tryz.keysI : Go.Proofs.SlLaysZI.n7 Tryz.prog Tryz.keysI_ren := {
  mixed := by kernel_rfl
  f7 := ⟨Tryz.f73.name, by decide, Tryz.func73.trans (congrArg some (by kernel_rfl))⟩
  f10 := ⟨Tryz.f101.name, by decide, Tryz.func101.trans (congrArg some (by kernel_rfl))⟩
  t0 := Tryz.underlying0
  a0 := Tryz.isAgg0
  z0 := Tryz.sizeOf0
  v0 := Tryz.zeroValue0
  t4 := Tryz.underlying4
  a4 := Tryz.isAgg4
  z4 := Tryz.sizeOf4
  v4 := Tryz.zeroValue4
  t23 := Tryz.underlying132
  a23 := Tryz.isAgg132
  z23 := Tryz.sizeOf132
  v23 := Tryz.zeroValue132
  t26 := Tryz.underlying3
  a26 := Tryz.isAgg3
  z26 := Tryz.sizeOf3
  v26 := Tryz.zeroValue3
  t27 := Tryz.underlying138
  a27 := Tryz.isAgg138
  z27 := Tryz.sizeOf138
  v27 := Tryz.zeroValue138
  t28 := Tryz.underlying139
  a28 := Tryz.isAgg139
  z28 := Tryz.sizeOf139
  v28 := Tryz.zeroValue139
  t33 := Tryz.underlying131
  a33 := Tryz.isAgg131
  z33 := Tryz.sizeOf131
  v33 := Tryz.zeroValue131 }
def Tryz.sortedI_ren : Go.Shelf.Ren := ⟨fun | 6 => 72 | 8 => 99 | 9 => 100 | 11 => 132 | 13 => 131 | 12 => 133 | 23 => 159 | 24 => 160 | 14 => 161 | 15 => 162 | 16 => 163 | 17 => 164 | 18 => 165 | 19 => 166 | 20 => 167 | 21 => 168 | 22 => 169 | 25 => 184 | 26 => 180 | 27 => 181 | 28 => 185 | 29 => 186 | 30 => 129 | 31 => 195 | n => n, fun | 26 => 3 | 28 => 139 | 24 => 27 | 0 => 0 | 3 => 3 | 37 => 201 | 48 => 144 | 50 => 43 | 4 => 4 | 40 => 235 | 39 => 234 | 45 => 239 | 5 => 5 | 9 => 9 | 51 => 255 | 55 => 259 | 57 => 267 | 58 => 268 | 33 => 131 | n => n, fun | n => n⟩
theorem Tryz.sortedI : Go.Proofs.SlLaysZI.n6 Tryz.prog Tryz.sortedI_ren := {
  mixed := by kernel_rfl
  f6 := ⟨Tryz.f72.name, by decide, Tryz.func72.trans (congrArg some (by kernel_rfl))⟩
  f8 := ⟨Tryz.f99.name, by decide, Tryz.func99.trans (congrArg some (by kernel_rfl))⟩
  f11 := ⟨Tryz.f132.name, by decide, Tryz.func132.trans (congrArg some (by kernel_rfl))⟩
  t0 := Tryz.underlying0
  a0 := Tryz.isAgg0
  z0 := Tryz.sizeOf0
  v0 := Tryz.zeroValue0
  t24 := Tryz.underlying27
  a24 := Tryz.isAgg27
  z24 := Tryz.sizeOf27
  v24 := Tryz.zeroValue27
  t26 := Tryz.underlying3
  a26 := Tryz.isAgg3
  z26 := Tryz.sizeOf3
  v26 := Tryz.zeroValue3
  t28 := Tryz.underlying139
  a28 := Tryz.isAgg139
  z28 := Tryz.sizeOf139
  v28 := Tryz.zeroValue139
  i26 := by kernel_rfl }
def Tryz.sortI_ren : Go.Shelf.Ren := ⟨fun | 5 => 100 | 8 => 131 | 7 => 133 | 19 => 159 | 20 => 160 | 10 => 161 | 11 => 162 | 12 => 163 | 13 => 164 | 14 => 165 | 15 => 166 | 16 => 167 | 17 => 168 | 18 => 169 | 30 => 184 | 31 => 180 | 32 => 181 | 33 => 185 | 34 => 186 | 35 => 129 | 40 => 195 | n => n, fun | 23 => 27 | 25 => 3 | 3 => 3 | 32 => 201 | 22 => 27 | 0 => 0 | 44 => 144 | 46 => 43 | 4 => 4 | 36 => 235 | 35 => 234 | 41 => 239 | 5 => 5 | 9 => 9 | 53 => 255 | 57 => 259 | 63 => 267 | 64 => 268 | n => n, fun | n => n⟩
theorem Tryz.sortI : Go.Proofs.SlLaysM.n5 Tryz.prog Tryz.sortI_ren := {
  mixed := by kernel_rfl
  f5 := ⟨Tryz.f100.name, by decide, Tryz.func100.trans (congrArg some (by kernel_rfl))⟩
  f7 := ⟨Tryz.f133.name, by decide, Tryz.func133.trans (congrArg some (by kernel_rfl))⟩
  f8 := Tryz.func131.trans (congrArg some (by kernel_rfl))
  f10 := ⟨Tryz.f161.name, by decide, Tryz.func161.trans (congrArg some (by kernel_rfl))⟩
  f11 := ⟨Tryz.f162.name, by decide, Tryz.func162.trans (congrArg some (by kernel_rfl))⟩
  f12 := ⟨Tryz.f163.name, by decide, Tryz.func163.trans (congrArg some (by kernel_rfl))⟩
  f13 := ⟨Tryz.f164.name, by decide, Tryz.func164.trans (congrArg some (by kernel_rfl))⟩
  f14 := ⟨Tryz.f165.name, by decide, Tryz.func165.trans (congrArg some (by kernel_rfl))⟩
  f15 := ⟨Tryz.f166.name, by decide, Tryz.func166.trans (congrArg some (by kernel_rfl))⟩
  f16 := ⟨Tryz.f167.name, by decide, Tryz.func167.trans (congrArg some (by kernel_rfl))⟩
  f17 := ⟨Tryz.f168.name, by decide, Tryz.func168.trans (congrArg some (by kernel_rfl))⟩
  f18 := ⟨Tryz.f169.name, by decide, Tryz.func169.trans (congrArg some (by kernel_rfl))⟩
  f19 := Tryz.func159.trans (congrArg some (by kernel_rfl))
  f20 := Tryz.func160.trans (congrArg some (by kernel_rfl))
  f30 := ⟨Tryz.f184.name, by decide, Tryz.func184.trans (congrArg some (by kernel_rfl))⟩
  f31 := Tryz.func180.trans (congrArg some (by kernel_rfl))
  f32 := Tryz.func181.trans (congrArg some (by kernel_rfl))
  f33 := ⟨Tryz.f185.name, by decide, Tryz.func185.trans (congrArg some (by kernel_rfl))⟩
  f34 := ⟨Tryz.f186.name, by decide, Tryz.func186.trans (congrArg some (by kernel_rfl))⟩
  f35 := ⟨Tryz.f129.name, by decide, Tryz.func129.trans (congrArg some (by kernel_rfl))⟩
  f40 := ⟨Tryz.f195.name, by decide, Tryz.func195.trans (congrArg some (by kernel_rfl))⟩
  t0 := Tryz.underlying0
  a0 := Tryz.isAgg0
  z0 := Tryz.sizeOf0
  v0 := Tryz.zeroValue0
  t3 := Tryz.underlying3
  a3 := Tryz.isAgg3
  z3 := Tryz.sizeOf3
  v3 := Tryz.zeroValue3
  t4 := Tryz.underlying4
  a4 := Tryz.isAgg4
  z4 := Tryz.sizeOf4
  v4 := Tryz.zeroValue4
  t5 := Tryz.underlying5
  a5 := Tryz.isAgg5
  z5 := Tryz.sizeOf5
  v5 := Tryz.zeroValue5
  t9 := Tryz.underlying9
  a9 := Tryz.isAgg9
  z9 := Tryz.sizeOf9
  v9 := Tryz.zeroValue9
  t22 := Tryz.underlying27
  a22 := Tryz.isAgg27
  z22 := Tryz.sizeOf27
  v22 := Tryz.zeroValue27
  t23 := Tryz.underlying27
  a23 := Tryz.isAgg27
  z23 := Tryz.sizeOf27
  v23 := Tryz.zeroValue27
  t25 := Tryz.underlying3
  a25 := Tryz.isAgg3
  z25 := Tryz.sizeOf3
  v25 := Tryz.zeroValue3
  t32 := Tryz.underlying201
  a32 := Tryz.isAgg201
  z32 := Tryz.sizeOf201
  v32 := Tryz.zeroValue201
  t35 := Tryz.underlying234
  a35 := Tryz.isAgg234
  z35 := Tryz.sizeOf234
  v35 := Tryz.zeroValue234
  t36 := Tryz.underlying235
  a36 := Tryz.isAgg235
  z36 := Tryz.sizeOf235
  v36 := Tryz.zeroValue235
  t41 := Tryz.underlying239
  a41 := Tryz.isAgg239
  z41 := Tryz.sizeOf239
  v41 := Tryz.zeroValue239
  t44 := Tryz.underlying144
  a44 := Tryz.isAgg144
  z44 := Tryz.sizeOf144
  v44 := Tryz.zeroValue144
  t46 := Tryz.underlying43
  a46 := Tryz.isAgg43
  z46 := Tryz.sizeOf43
  v46 := Tryz.zeroValue43
  t53 := Tryz.underlying255
  a53 := Tryz.isAgg255
  z53 := Tryz.sizeOf255
  v53 := Tryz.zeroValue255
  t57 := Tryz.underlying259
  a57 := Tryz.isAgg259
  z57 := Tryz.sizeOf259
  v57 := Tryz.zeroValue259
  t63 := Tryz.underlying267
  a63 := Tryz.isAgg267
  z63 := Tryz.sizeOf267
  v63 := Tryz.zeroValue267
  t64 := Tryz.underlying268
  a64 := Tryz.isAgg268
  z64 := Tryz.sizeOf268
  v64 := Tryz.zeroValue268 }
end Go.Proofs

namespace Go.Proofs.YtjgiiciniplbnaaGreatDoor
open Go Go.RowKit Go.Maps Go.Sort Go.Shelf
open Go.Maps (Keyed)
set_option linter.unusedVariables false

/-- slices.Sort's two contracts, at the fence that asks nothing. -/
theorem sortsI (m : Nat) : AnyZI.SortsIn Tryz.prog Tryz.sortedI_ren Fence.wide m :=
  ⟨fun blk off cap ss W hH hblk hsz => callsIn_wide.2 (AnyM.slices_Sort_int Tryz.sortI blk off cap ss W hH hblk hsz),
   fun p cap W => callsIn_wide.2 (AnyM.slices_Sort_int_none Tryz.sortI p cap W)⟩
/-- maps.Keys of a map of claims: an iterator over it. -/
theorem keysI_any (mb : Option Nat) (W : World) : Calls Tryz.prog 73 #[.map mb] W fun e w' => e = .returned (.func (.func 101) #[] #[.pointer (some ⟨W.heap.size, 0, none⟩)]) ∧ w' = W.alloc (.cells #[.map mb] 132) :=
  callsIn_wide.1 (AnyZI.keys_in Tryz.keysI Fence.wide 5 trivial rfl mb W)
set_option maxHeartbeats 1000000 in
/-- slices.Sorted of that iterator: the keys, ascending. -/
theorem sortedI_any {H : Type} (b nn : Nat) (D0 : DataW H) (R : Value → Option (DataW H × List MemPlace)) (w : World) (hown : w.ownsMap Tryz.prog 3 R b nn D0) (hmax : Maps.size D0 ≤ maxLen) (hbytes : Maps.size D0 * 8 ≤ 140737488355328) :
    Calls Tryz.prog 72 #[.func (.func 101) #[] #[.pointer (some ⟨w.heap.size, 0, none⟩)]] (w.alloc (.cells #[.map (some b)] 132)) fun e w' => ∃ (v : Value) (ss : List Int), e = .returned v ∧ ss.Perm (intKeys D0) ∧
      w'.ownsRow w.heap.size 3 1 v ss.length ((ss.mergeSort (fun x y => decide (x ≤ y))).map encZ) ∧ (v = .slice none 0 0 ↔ ss = []) ∧ Below w.heap.size w w' := by
  have hbl := hown.lt
  have hseq : SeqGives Fence.wide 2 Tryz.prog 101 #[.pointer (some ⟨w.heap.size, 0, none⟩)] encZ (fun ss => ss.Perm (intKeys D0)) (Maps.size D0) (w.alloc (.cells #[.map (some b)] 132)) :=
    AnyZI.keys_gives (ρ := Tryz.keysI_ren) { Tryz.keysI with } Fence.wide _ trivial rfl (by omega) w.heap.size b nn D0 _ (by simp) (by simp) (by
      obtain ⟨es, clock, hb, Ft, hs, hD⟩ := hown
      exact ⟨es, clock, (Below.heap_alloc _ _ b hbl).trans hb, Ft, hs, hD⟩)
  have cS := AnyZI.sorted_in Tryz.sortedI Fence.wide 5 trivial trivial trivial trivial rfl (by omega) (sortsI _) (enters_of Tryz.func100 (by kernel_rfl) rfl) 101 #[.pointer (some ⟨w.heap.size, 0, none⟩)] trivial (enters_of Tryz.func101 (by kernel_rfl) rfl) _ _ hmax hbytes _ hseq
  change CallsIn _ _ Tryz.prog 72 _ _ _ at cS
  refine (callsIn_wide.1 cS).mono ?_
  rintro e w' ⟨v, ss, rfl, hS, hrow, hnil, hb⟩
  exact ⟨v, ss, rfl, hS, ownsRow_base_a hrow (by simp), hnil, ((Below.refl _ w).alloc (Nat.le_refl _) _).trans (hb.mono (by simp))⟩
set_option maxHeartbeats 1000000 in
/-- .. of the nil map. -/
theorem sortedI_nil (w : World) : Calls Tryz.prog 72 #[.func (.func 101) #[] #[.pointer (some ⟨w.heap.size, 0, none⟩)]] (w.alloc (.cells #[.map none] 132)) fun e w' => e = .returned (.slice none 0 0) ∧ Below w.heap.size w w' := by
  have hseq : SeqGives Fence.wide 2 Tryz.prog 101 #[.pointer (some ⟨w.heap.size, 0, none⟩)] encZ (fun ss : List Int => ss = []) 0 (w.alloc (.cells #[.map none] 132)) :=
    AnyZI.keys_gives_nil (ρ := Tryz.keysI_ren) { Tryz.keysI with } Fence.wide _ trivial rfl w.heap.size _ (by simp) (by simp)
  have cS := AnyZI.sorted_in Tryz.sortedI Fence.wide 5 trivial trivial trivial trivial rfl (by omega) (sortsI _) (enters_of Tryz.func100 (by kernel_rfl) rfl) 101 #[.pointer (some ⟨w.heap.size, 0, none⟩)] trivial (enters_of Tryz.func101 (by kernel_rfl) rfl) _ 0 (Nat.zero_le _) (by omega) _ hseq
  change CallsIn _ _ Tryz.prog 72 _ _ _ at cS
  refine (callsIn_wide.1 cS).mono ?_
  rintro e w' ⟨v, ss, rfl, rfl, hrow, hnil, hb⟩
  obtain rfl : v = .slice none 0 0 := hnil.2 rfl
  exact ⟨rfl, ((Below.refl _ w).alloc (Nat.le_refl _) _).trans (hb.mono (by simp))⟩
end Go.Proofs.YtjgiiciniplbnaaGreatDoor

namespace Go.Proofs.YtjgiiciniplbnaaGreatDoor
open Go Go.RowKit Go.Lib Go.Sort Go.Shelf
open Go.Maps (Keyed)
set_option linter.unusedVariables false

set_option maxRecDepth 100000 in
set_option maxHeartbeats 8000000 in
/-- of an object with claims -/
theorem Claimants_some (obj : List Nat) (ho : obj.length = 32) (kl : Lit) (hkl : keyOf Tryz.prog 23 (.agg (u8s obj).toArray) = some kl) (cb ob ib n ni : Nat) (D DI : DataW Unit) (w : World)
    (hc : w.heap[cb]? = some (.cells #[.map (some ob)] 130 (0, 0))) (hown : w.ownsMap Tryz.prog 23 mapR ob n D) (hat : D.atKey kl .nil = .lit (.int .i64 (ib : Int)))
    (hinn : w.ownsMap (H := Unit) Tryz.prog 3 (plainElem Tryz.prog 43) ib ni DI) (hsz : Maps.size DI ≤ 1000000) :
    Calls Tryz.prog 37 #[.pointer (some ⟨cb, 0, none⟩), .agg (u8s obj).toArray] w fun e w' => ∃ (v : Value) (ss : List Int), e = .returned v ∧ ss.Perm (intKeys DI) ∧
      w'.ownsRow w.heap.size 3 1 v ss.length ((ss.mergeSort (fun x y => decide (x ≤ y))).map encZ) ∧ (v = .slice none 0 0 ↔ ss = []) ∧ Below w.heap.size w w' := by
  obtain ⟨w1, hw1⟩ : ∃ y, y = w.alloc (.cells (u8s obj).toArray 23) := ⟨_, rfl⟩
  have hb1 : Below w.heap.size w w1 := by rw [hw1]; exact (Below.refl _ _).alloc (Nat.le_refl _) _
  have HR0 := hid (show OwnD w1 w.heap.size obj from by rw [hw1]; exact heap_new _ _)
  have HC := hid ((hb1.block cb (lt_of_heap hc)).trans hc)
  have HM := hid (ownsMap_below hown hb1)
  have HN := hid (ownsMap_below hinn hb1)
  have HB1 := hid hb1
  have HW1 := hid hw1
  have HIF := hid (infoD obj ho)
  obtain ⟨OB, hOB⟩ : ∃ y, y = (u8s obj).toArray := ⟨_, rfl⟩
  have HLD := hid (show ∀ wx : World, Below w1.heap.size w1 wx → (loadVar 23 ⟨w.heap.size, 0, none⟩).run Tryz.prog wx = .ok (.agg OB) wx from fun wx h => by
    rw [hOB]
    exact run_loadVar_mid (P := Tryz.prog) wx w.heap.size 0 23 (u8s obj) _ (range_own ((h.block _ (lt_of_heap HR0.out)).trans HR0.out)) Tryz.underlying23 rfl HIF.out)
  have HLU := hid (show ∀ wx : World, Below w1.heap.size w1 wx → (Instr.lookup 128 (.map (some ob)) (.agg OB) false).run Tryz.prog wx = .ok (.map (some ib)) wx from fun wx h => by
    obtain ⟨v, ps, h1, h2⟩ := (ownsMap_below HM.out h).lookup keyedD Tryz.underlying128 (zeroM _) (zd := .nil) (zp := []) rfl (key := .agg OB) (by rw [hOB]; exact hkl)
    rw [hat] at h2
    rw [mapR_some h2] at h1
    exact h1)
  have HKP := hid (show ∀ wx : World, Below w1.heap.size w1 wx → wx.cell? ⟨cb, 0, none⟩ = some (.map (some ob)) ∧ (loadVar 23 ⟨w.heap.size, 0, none⟩).run Tryz.prog wx = .ok (.agg OB) wx ∧ (Instr.lookup 128 (.map (some ob)) (.agg OB) false).run Tryz.prog wx = .ok (.map (some ib)) wx from fun wx h => ⟨cell_of_heap ((h.block cb (lt_of_heap HC.out)).trans HC.out) 0, HLD.out wx h, HLU.out wx h⟩)
  rw [← hOB] at HW1 ⊢
  clear hc hown hinn hb1 hw1 hOB hkl hat
  go_enter Tryz.func37, Tryz.ntmps37
  go_upto_region 1 with fail
  rw [← HW1.out]
  go_upto_region 3 with fail
  refine wp_region_held_drew (S := (fun wx : World => wx.cell? ⟨cb, 0, none⟩ = some (.map (some ob)) ∧ (loadVar 23 ⟨w.heap.size, 0, none⟩).run Tryz.prog wx = .ok (.agg OB) wx ∧ (Instr.lookup 128 (.map (some ob)) (.agg OB) false).run Tryz.prog wx = .ok (.map (some ib)) wx)) (by kernel_rfl) (HKP.out _ (bel_drewN (Below.refl w1.heap.size w1) 1)) (fun hHeld => ?_)
  refine wpAnyH_take (i := 0) (oi := { dst := some 7, op := Op.move (Operand.tmp 0), type := 40, pos := "claims.go:75", after := #[], guard := none }) (v := ?_) rfl (by kernel_rfl) (by kernel_rfl) (by kernel_rfl) (fun _ _ _ h => h) (Or.inl ⟨by rfl, ?hy⟩) hHeld ?_
  case hy => (intro w hSw; (try dsimp only at hSw); obtain ⟨_, _, _⟩ := hSw; go_simp; all_goals (with_reducible rfl))
  try simp only [Act.put, List.setIfInBounds_toArray, List.set_cons_zero, List.set_cons_succ]
  refine wpAnyH_take (i := 1) (oi := { dst := some 8, op := Op.nilCheck (Operand.tmp 7), type := 0, pos := "claims.go:75", after := #[{ on := 0, ground := Ground.data }], guard := none }) (v := ?_) rfl (by kernel_rfl) (by kernel_rfl) (by kernel_rfl) (fun _ _ _ h => h) (Or.inl ⟨by rfl, ?hy⟩) hHeld ?_
  case hy => (intro w hSw; (try dsimp only at hSw); obtain ⟨_, _, _⟩ := hSw; go_simp; all_goals (with_reducible rfl))
  try simp only [Act.put, List.setIfInBounds_toArray, List.set_cons_zero, List.set_cons_succ]
  refine wpAnyH_take (i := 2) (oi := { dst := some 9, op := Op.fieldAddr 130 (Operand.tmp 8) 0, type := 0, pos := "claims.go:75", after := #[{ on := 1, ground := Ground.data }], guard := none }) (v := ?_) rfl (by kernel_rfl) (by kernel_rfl) (by kernel_rfl) (fun _ _ _ h => h) (Or.inl ⟨by rfl, ?hy⟩) hHeld ?_
  case hy => (intro w hSw; (try dsimp only at hSw); obtain ⟨_, _, _⟩ := hSw; go_simp; all_goals (with_reducible rfl))
  try simp only [Act.put, List.setIfInBounds_toArray, List.set_cons_zero, List.set_cons_succ]
  refine wpAnyH_take (i := 3) (oi := { dst := some 10, op := Op.load 128 (Operand.tmp 9), type := 128, pos := "claims.go:75", after := #[{ on := 2, ground := Ground.data }], guard := none }) (v := ?_) rfl (by kernel_rfl) (by kernel_rfl) (by kernel_rfl) (fun _ _ _ h => h) (Or.inl ⟨by rfl, ?hy⟩) hHeld ?_
  case hy => (intro w hSw; (try dsimp only at hSw); obtain ⟨_, _, _⟩ := hSw; go_simp; all_goals (with_reducible rfl))
  try simp only [Act.put, List.setIfInBounds_toArray, List.set_cons_zero, List.set_cons_succ]
  refine wpAnyH_take (i := 4) (oi := { dst := some 11, op := Op.load 23 (Operand.tmp 3), type := 23, pos := "claims.go:75", after := #[], guard := none }) (v := .agg OB) rfl (by kernel_rfl) (by kernel_rfl) (by kernel_rfl) (fun _ _ _ h => h) (Or.inl ⟨by rfl, ?hy⟩) hHeld ?_
  case hy => (intro w hSw; exact run_load_opP hSw.2.1)
  try simp only [Act.put, List.setIfInBounds_toArray, List.set_cons_zero, List.set_cons_succ]
  refine wpAnyH_take (i := 5) (oi := { dst := some 12, op := Op.lookup 128 (Operand.tmp 10) (Operand.tmp 11) false, type := 132, pos := "claims.go:75", after := #[{ on := 3, ground := Ground.data }, { on := 4, ground := Ground.data }], guard := none }) (v := .map (some ib)) rfl (by kernel_rfl) (by kernel_rfl) (by kernel_rfl) (fun _ _ _ h => h) (Or.inl ⟨by rfl, ?hy⟩) hHeld ?_
  case hy => (intro w hSw; exact run_lookup_op hSw.2.2)
  try simp only [Act.put, List.setIfInBounds_toArray, List.set_cons_zero, List.set_cons_succ]
  refine wpAnyH_ready (rs := [6]) (by kernel_rfl) (by simp) ?_
  refine AllReadyH.cons (o := { dst := some 13, op := Op.call { callee := Callee.value (Operand.func 73), args := #[Operand.tmp 12], argTypes := #[132] }, type := 139, pos := "claims.go:75", after := #[{ on := 5, ground := Ground.data }], guard := none }) rfl (fun K hK => ?_) AllReadyH.nil
  go_simp
  refine (keysI_any (some ib) (w1.drewN 1)).mono ?_
  rintro e w2 ⟨rfl, rfl⟩
  clear hHeld
  go_wp2_with fail
  refine hK.out _ _ (HKP.out _ (((bel_drewN (Below.refl w1.heap.size w1) 1)).alloc (by simp) _)) (fun hHeld => ?_)
  clear hK K
  try simp only [Act.put, List.setIfInBounds_toArray, List.set_cons_zero, List.set_cons_succ]
  refine wpAnyH_ready (rs := [7]) (by kernel_rfl) (by simp) ?_
  refine AllReadyH.cons (o := { dst := some 14, op := Op.call { callee := Callee.value (Operand.func 72), args := #[Operand.tmp 13], argTypes := #[139] }, type := 27, pos := "claims.go:75", after := #[{ on := 6, ground := Ground.data }, { on := 6, ground := Ground.chain }], guard := none }) rfl (fun K hK => ?_) AllReadyH.nil
  go_simp
  refine (sortedI_any ib ni DI (plainElem Tryz.prog 43) (w1.drewN 1) (ownsMap_below HN.out (bel_drewN (Below.refl w1.heap.size w1) 1)) (by unfold maxLen; omega) (by omega)).mono ?_
  rintro e w3 ⟨v, ss, rfl, hS, hrow, hnil, hb⟩
  have HS := hid hS
  have HROW := hid hrow
  have HNIL := hid hnil
  have HB3 := hid ((bel_drewN (Below.refl w1.heap.size w1) 1).trans hb)
  clear hS hrow hnil hb
  clear hHeld
  go_wp2_with fail
  refine hK.out _ _ (HKP.out _ HB3.out) (fun hHeld => ?_)
  clear hK K
  try simp only [Act.put, List.setIfInBounds_toArray, List.set_cons_zero, List.set_cons_succ]
  refine wpAnyH_take (i := 8) (oi := { dst := some 4, op := Op.assign (Operand.tmp 14), type := 27, pos := "claims.go:75", after := #[{ on := 7, ground := Ground.data }, { on := 7, ground := Ground.chain }, { on := 0, ground := Ground.phase }, { on := 1, ground := Ground.phase }, { on := 2, ground := Ground.phase }, { on := 3, ground := Ground.phase }, { on := 4, ground := Ground.phase }, { on := 5, ground := Ground.phase }, { on := 6, ground := Ground.phase }, { on := 7, ground := Ground.phase }], guard := none }) (v := ?_) rfl (by kernel_rfl) (by kernel_rfl) (by kernel_rfl) (fun _ _ _ h => h) (Or.inl ⟨by rfl, ?hy⟩) hHeld ?_
  case hy => (intro w hSw; (try dsimp only at hSw); obtain ⟨_, _, _⟩ := hSw; go_simp; all_goals (with_reducible rfl))
  try simp only [Act.put, List.setIfInBounds_toArray, List.set_cons_zero, List.set_cons_succ]
  refine wpAnyH_done (by kernel_rfl) ?_ _
  go_wp2
  go_ret
  exact ⟨v, ss, rfl, HS.out, ownsRow_base_a HROW.out HB1.out.size, HNIL.out, HB1.out.trans (HB3.out.mono HB1.out.size)⟩
set_option maxRecDepth 100000 in
set_option maxHeartbeats 8000000 in
/-- of an object without claims -/
theorem Claimants_none (obj : List Nat) (ho : obj.length = 32) (kl : Lit) (hkl : keyOf Tryz.prog 23 (.agg (u8s obj).toArray) = some kl) (cb ob n : Nat) (D : DataW Unit) (w : World)
    (hc : w.heap[cb]? = some (.cells #[.map (some ob)] 130 (0, 0))) (hown : w.ownsMap Tryz.prog 23 mapR ob n D) (hat : D.atKey kl .nil = .nil) :
    Calls Tryz.prog 37 #[.pointer (some ⟨cb, 0, none⟩), .agg (u8s obj).toArray] w fun e w' => e = .returned (.slice none 0 0) ∧ Below w.heap.size w w' := by
  obtain ⟨w1, hw1⟩ : ∃ y, y = w.alloc (.cells (u8s obj).toArray 23) := ⟨_, rfl⟩
  have hb1 : Below w.heap.size w w1 := by rw [hw1]; exact (Below.refl _ _).alloc (Nat.le_refl _) _
  have HR0 := hid (show OwnD w1 w.heap.size obj from by rw [hw1]; exact heap_new _ _)
  have HC := hid ((hb1.block cb (lt_of_heap hc)).trans hc)
  have HM := hid (ownsMap_below hown hb1)
  have HB1 := hid hb1
  have HW1 := hid hw1
  have HIF := hid (infoD obj ho)
  obtain ⟨OB, hOB⟩ : ∃ y, y = (u8s obj).toArray := ⟨_, rfl⟩
  have HLD := hid (show ∀ wx : World, Below w1.heap.size w1 wx → (loadVar 23 ⟨w.heap.size, 0, none⟩).run Tryz.prog wx = .ok (.agg OB) wx from fun wx h => by
    rw [hOB]
    exact run_loadVar_mid (P := Tryz.prog) wx w.heap.size 0 23 (u8s obj) _ (range_own ((h.block _ (lt_of_heap HR0.out)).trans HR0.out)) Tryz.underlying23 rfl HIF.out)
  have HLU := hid (show ∀ wx : World, Below w1.heap.size w1 wx → (Instr.lookup 128 (.map (some ob)) (.agg OB) false).run Tryz.prog wx = .ok (.map none) wx from fun wx h => by
    obtain ⟨v, ps, h1, h2⟩ := (ownsMap_below HM.out h).lookup keyedD Tryz.underlying128 (zeroM _) (zd := .nil) (zp := []) rfl (key := .agg OB) (by rw [hOB]; exact hkl)
    rw [hat] at h2
    rw [mapR_nil h2] at h1
    exact h1)
  have HKP := hid (show ∀ wx : World, Below w1.heap.size w1 wx → wx.cell? ⟨cb, 0, none⟩ = some (.map (some ob)) ∧ (loadVar 23 ⟨w.heap.size, 0, none⟩).run Tryz.prog wx = .ok (.agg OB) wx ∧ (Instr.lookup 128 (.map (some ob)) (.agg OB) false).run Tryz.prog wx = .ok (.map none) wx from fun wx h => ⟨cell_of_heap ((h.block cb (lt_of_heap HC.out)).trans HC.out) 0, HLD.out wx h, HLU.out wx h⟩)
  rw [← hOB] at HW1 ⊢
  clear hc hown hb1 hw1 hOB hkl hat
  go_enter Tryz.func37, Tryz.ntmps37
  go_upto_region 1 with fail
  rw [← HW1.out]
  go_upto_region 3 with fail
  refine wp_region_held_drew (S := (fun wx : World => wx.cell? ⟨cb, 0, none⟩ = some (.map (some ob)) ∧ (loadVar 23 ⟨w.heap.size, 0, none⟩).run Tryz.prog wx = .ok (.agg OB) wx ∧ (Instr.lookup 128 (.map (some ob)) (.agg OB) false).run Tryz.prog wx = .ok (.map none) wx)) (by kernel_rfl) (HKP.out _ (bel_drewN (Below.refl w1.heap.size w1) 1)) (fun hHeld => ?_)
  refine wpAnyH_take (i := 0) (oi := { dst := some 7, op := Op.move (Operand.tmp 0), type := 40, pos := "claims.go:75", after := #[], guard := none }) (v := ?_) rfl (by kernel_rfl) (by kernel_rfl) (by kernel_rfl) (fun _ _ _ h => h) (Or.inl ⟨by rfl, ?hy⟩) hHeld ?_
  case hy => (intro w hSw; (try dsimp only at hSw); obtain ⟨_, _, _⟩ := hSw; go_simp; all_goals (with_reducible rfl))
  try simp only [Act.put, List.setIfInBounds_toArray, List.set_cons_zero, List.set_cons_succ]
  refine wpAnyH_take (i := 1) (oi := { dst := some 8, op := Op.nilCheck (Operand.tmp 7), type := 0, pos := "claims.go:75", after := #[{ on := 0, ground := Ground.data }], guard := none }) (v := ?_) rfl (by kernel_rfl) (by kernel_rfl) (by kernel_rfl) (fun _ _ _ h => h) (Or.inl ⟨by rfl, ?hy⟩) hHeld ?_
  case hy => (intro w hSw; (try dsimp only at hSw); obtain ⟨_, _, _⟩ := hSw; go_simp; all_goals (with_reducible rfl))
  try simp only [Act.put, List.setIfInBounds_toArray, List.set_cons_zero, List.set_cons_succ]
  refine wpAnyH_take (i := 2) (oi := { dst := some 9, op := Op.fieldAddr 130 (Operand.tmp 8) 0, type := 0, pos := "claims.go:75", after := #[{ on := 1, ground := Ground.data }], guard := none }) (v := ?_) rfl (by kernel_rfl) (by kernel_rfl) (by kernel_rfl) (fun _ _ _ h => h) (Or.inl ⟨by rfl, ?hy⟩) hHeld ?_
  case hy => (intro w hSw; (try dsimp only at hSw); obtain ⟨_, _, _⟩ := hSw; go_simp; all_goals (with_reducible rfl))
  try simp only [Act.put, List.setIfInBounds_toArray, List.set_cons_zero, List.set_cons_succ]
  refine wpAnyH_take (i := 3) (oi := { dst := some 10, op := Op.load 128 (Operand.tmp 9), type := 128, pos := "claims.go:75", after := #[{ on := 2, ground := Ground.data }], guard := none }) (v := ?_) rfl (by kernel_rfl) (by kernel_rfl) (by kernel_rfl) (fun _ _ _ h => h) (Or.inl ⟨by rfl, ?hy⟩) hHeld ?_
  case hy => (intro w hSw; (try dsimp only at hSw); obtain ⟨_, _, _⟩ := hSw; go_simp; all_goals (with_reducible rfl))
  try simp only [Act.put, List.setIfInBounds_toArray, List.set_cons_zero, List.set_cons_succ]
  refine wpAnyH_take (i := 4) (oi := { dst := some 11, op := Op.load 23 (Operand.tmp 3), type := 23, pos := "claims.go:75", after := #[], guard := none }) (v := .agg OB) rfl (by kernel_rfl) (by kernel_rfl) (by kernel_rfl) (fun _ _ _ h => h) (Or.inl ⟨by rfl, ?hy⟩) hHeld ?_
  case hy => (intro w hSw; exact run_load_opP hSw.2.1)
  try simp only [Act.put, List.setIfInBounds_toArray, List.set_cons_zero, List.set_cons_succ]
  refine wpAnyH_take (i := 5) (oi := { dst := some 12, op := Op.lookup 128 (Operand.tmp 10) (Operand.tmp 11) false, type := 132, pos := "claims.go:75", after := #[{ on := 3, ground := Ground.data }, { on := 4, ground := Ground.data }], guard := none }) (v := .map none) rfl (by kernel_rfl) (by kernel_rfl) (by kernel_rfl) (fun _ _ _ h => h) (Or.inl ⟨by rfl, ?hy⟩) hHeld ?_
  case hy => (intro w hSw; exact run_lookup_op hSw.2.2)
  try simp only [Act.put, List.setIfInBounds_toArray, List.set_cons_zero, List.set_cons_succ]
  refine wpAnyH_ready (rs := [6]) (by kernel_rfl) (by simp) ?_
  refine AllReadyH.cons (o := { dst := some 13, op := Op.call { callee := Callee.value (Operand.func 73), args := #[Operand.tmp 12], argTypes := #[132] }, type := 139, pos := "claims.go:75", after := #[{ on := 5, ground := Ground.data }], guard := none }) rfl (fun K hK => ?_) AllReadyH.nil
  go_simp
  refine (keysI_any none (w1.drewN 1)).mono ?_
  rintro e w2 ⟨rfl, rfl⟩
  clear hHeld
  go_wp2_with fail
  refine hK.out _ _ (HKP.out _ (((bel_drewN (Below.refl w1.heap.size w1) 1)).alloc (by simp) _)) (fun hHeld => ?_)
  clear hK K
  try simp only [Act.put, List.setIfInBounds_toArray, List.set_cons_zero, List.set_cons_succ]
  refine wpAnyH_ready (rs := [7]) (by kernel_rfl) (by simp) ?_
  refine AllReadyH.cons (o := { dst := some 14, op := Op.call { callee := Callee.value (Operand.func 72), args := #[Operand.tmp 13], argTypes := #[139] }, type := 27, pos := "claims.go:75", after := #[{ on := 6, ground := Ground.data }, { on := 6, ground := Ground.chain }], guard := none }) rfl (fun K hK => ?_) AllReadyH.nil
  go_simp
  refine (sortedI_nil (w1.drewN 1)).mono ?_
  rintro e w3 ⟨rfl, hb⟩
  have HB3 := hid ((bel_drewN (Below.refl w1.heap.size w1) 1).trans hb)
  clear hb
  clear hHeld
  go_wp2_with fail
  refine hK.out _ _ (HKP.out _ HB3.out) (fun hHeld => ?_)
  clear hK K
  try simp only [Act.put, List.setIfInBounds_toArray, List.set_cons_zero, List.set_cons_succ]
  refine wpAnyH_take (i := 8) (oi := { dst := some 4, op := Op.assign (Operand.tmp 14), type := 27, pos := "claims.go:75", after := #[{ on := 7, ground := Ground.data }, { on := 7, ground := Ground.chain }, { on := 0, ground := Ground.phase }, { on := 1, ground := Ground.phase }, { on := 2, ground := Ground.phase }, { on := 3, ground := Ground.phase }, { on := 4, ground := Ground.phase }, { on := 5, ground := Ground.phase }, { on := 6, ground := Ground.phase }, { on := 7, ground := Ground.phase }], guard := none }) (v := ?_) rfl (by kernel_rfl) (by kernel_rfl) (by kernel_rfl) (fun _ _ _ h => h) (Or.inl ⟨by rfl, ?hy⟩) hHeld ?_
  case hy => (intro w hSw; (try dsimp only at hSw); obtain ⟨_, _, _⟩ := hSw; go_simp; all_goals (with_reducible rfl))
  try simp only [Act.put, List.setIfInBounds_toArray, List.set_cons_zero, List.set_cons_succ]
  refine wpAnyH_done (by kernel_rfl) ?_ _
  go_wp2
  go_ret
  exact ⟨rfl, HB1.out.trans (HB3.out.mono HB1.out.size)⟩
end Go.Proofs.YtjgiiciniplbnaaGreatDoor

namespace Go.Proofs.YtjgiiciniplbnaaGreatDoor
open Go Go.RowKit Go.Lib Go.Sort
open Go.Maps (Keyed)
set_option linter.unusedVariables false

/-- what a map of clocks says about a peer -/
def vw (D : DataW Unit) (p : Nat) : Option Int := match D.atKey (.int .i64 (p : Int)) .nil with | .lit (.int .u64 t) => some t | _ => none
theorem vw_at {D : DataW Unit} {p : Nat} {t : Int} (h : D.atKey (.int .i64 (p : Int)) .nil = .lit (.int .u64 t)) : vw D p = some t := by
  unfold vw
  rw [h]
theorem vw_nil {D : DataW Unit} {p : Nat} (h : D.atKey (.int .i64 (p : Int)) .nil = .nil) : vw D p = none := by
  unfold vw
  rw [h]
theorem vw_del {D : DataW Unit} {p q : Nat} : vw (D.del (.int .i64 (p : Int))) q = if q = p then none else vw D q := by
  by_cases e : q = p
  · subst e
    rw [if_pos rfl]
    exact vw_nil (Maps.atKey_del_same _)
  · rw [if_neg e]
    unfold vw
    rw [Maps.atKey_del_other (fun h => e (by simp only [Lit.int.injEq, true_and] at h; omega))]
theorem vw_put {D : DataW Unit} (hD : Maps.IsMap D) {p q : Nat} {t : Int} : vw (D.put (.int .i64 (p : Int)) (.lit (.int .u64 t))) q = if q = p then some t else vw D q := by
  by_cases e : q = p
  · subst e
    rw [if_pos rfl]
    exact vw_at (Maps.atKey_put_same hD (show WideAt.IsKeyLit (.int .i64 (q : Int)) from trivial) _ _)
  · rw [if_neg e]
    unfold vw
    rw [Maps.atKey_put_other (fun h => e (by simp only [Lit.int.injEq, true_and] at h; omega))]
theorem vw_size {D : DataW Unit} (hD : Maps.IsMap D) (h : Maps.size D = 0) (p : Nat) : vw D p = none := by
  obtain ⟨es, rfl⟩ := hD
  have : es = [] := List.length_eq_zero_iff.1 h
  subst this
  rfl
theorem vw_not_has {D : DataW Unit} {p : Nat} (h : Maps.has D (.int .i64 (p : Int)) = false) : vw D p = none := vw_nil (Maps.atKey_of_not_has h _)
/-- what is left of a clock behind a Sweep -/
def sw (clock : Int) (o : Option Int) : Option Int := match o with | some t => if curr t clock = true then some t else none | none => none

/-- where an object's claims lie: their block, how many there ever were, and what they read as -/
abbrev Jt := Lit → Option (Nat × Nat × DataW Unit)
def vj (J : Jt) (kl : Lit) (p : Nat) : Option Int := match J kl with | some a => vw a.2.2 p | none => none
theorem vj_some {J : Jt} {kl : Lit} {a : Nat × Nat × DataW Unit} (h : J kl = some a) (p : Nat) : vj J kl p = vw a.2.2 p := by unfold vj; rw [h]
theorem vj_none {J : Jt} {kl : Lit} (h : J kl = none) (p : Nat) : vj J kl p = none := by unfold vj; rw [h]
/-- the claims of one object -/
structure InM (w : World) (N ib ni : Nat) (D : DataW Unit) : Prop where
  own : w.ownsMap (H := Unit) Tryz.prog 3 (plainElem Tryz.prog 43) ib ni D
  ni : ni ≤ N
  keys : ∀ k, Maps.has D k = true → ∃ p : Nat, p < 16 ∧ k = .int .i64 (p : Int)
theorem InM.grown {w w' : World} {N ib ni : Nat} {D : DataW Unit} (h : InM w N ib ni D) {row : Option Nat} (g : w.grownBy w' row) (hne : some ib ≠ row) : InM w' N ib ni D := ⟨h.own.kept g hne, h.ni, h.keys⟩
theorem InM.mono {w : World} {N M ib ni : Nat} {D : DataW Unit} (h : InM w N ib ni D) (hM : N ≤ M) : InM w M ib ni D := ⟨h.own, Nat.le_trans h.ni hM, h.keys⟩
structure CM (B : Nat) (w : World) (N cb mb n : Nat) (D : DataW Unit) (J : Jt) : Prop where
  blk : w.heap[cb]? = some (.cells #[.map (some mb)] 130 (0, 0))
  ne : cb ≠ mb
  lo : B ≤ mb
  out : w.ownsMap Tryz.prog 23 mapR mb n D
  n : n ≤ N
  non : ∀ kl, J kl = none → Maps.has D kl = false
  at_ : ∀ kl a, J kl = some a → ∀ z, D.atKey kl z = .lit (.int .i64 (a.1 : Int))
  inn : ∀ kl a, J kl = some a → InM w N a.1 a.2.1 a.2.2 ∧ a.1 ≠ mb ∧ a.1 ≠ cb ∧ B ≤ a.1
  dig : ∀ kl a, J kl = some a → ∃ od : List Nat, od.length = 32 ∧ (∀ y ∈ od, y < 256) ∧ keyOf Tryz.prog 23 (.agg (u8s od).toArray) = some kl
  inj : ∀ kl kl' a b, J kl = some a → J kl' = some b → kl ≠ kl' → a.1 ≠ b.1
theorem CM.has {B : Nat} {w : World} {N cb mb n : Nat} {D : DataW Unit} {J : Jt} (h : CM B w N cb mb n D J) {kl : Lit} (hk : Maps.has D kl = true) : ∃ a, J kl = some a := by
  cases e : J kl with
  | none => rw [h.non kl e] at hk; cases hk
  | some a => exact ⟨a, rfl⟩
theorem CM.hasnt {B : Nat} {w : World} {N cb mb n : Nat} {D : DataW Unit} {J : Jt} (h : CM B w N cb mb n D J) {kl : Lit} (hk : Maps.has D kl = false) : J kl = none := by
  cases e : J kl with
  | none => rfl
  | some a => rw [Maps.has_true_of_atKey (h.at_ kl a e)] at hk; cases hk
theorem CM.grown {B : Nat} {w w' : World} {N cb mb n : Nat} {D : DataW Unit} {J : Jt} (h : CM B w N cb mb n D J) (g : w.grownBy w' none) : CM B w' N cb mb n D J :=
  ⟨(g.block cb (lt_of_heap h.blk) (by simp)).trans h.blk, h.ne, h.lo, h.out.kept g (by simp), h.n, h.non, h.at_, fun kl a e => ⟨(h.inn kl a e).1.grown g (by simp), (h.inn kl a e).2⟩, h.dig, h.inj⟩
theorem CM.below {B : Nat} {w w' : World} {N cb mb n : Nat} {D : DataW Unit} {J : Jt} (h : CM B w N cb mb n D J) (b : Below w.heap.size w w') : CM B w' N cb mb n D J := h.grown (grown_below b)
theorem CM.mono {B : Nat} {w : World} {N M cb mb n : Nat} {D : DataW Unit} {J : Jt} (h : CM B w N cb mb n D J) (hM : N ≤ M) : CM B w M cb mb n D J :=
  ⟨h.blk, h.ne, h.lo, h.out, Nat.le_trans h.n hM, h.non, h.at_, fun kl a e => ⟨(h.inn kl a e).1.mono hM, (h.inn kl a e).2⟩, h.dig, h.inj⟩
/-- all blocks below B, and all that are no maps, are as before -/
structure KM (B : Nat) (w w' : World) : Prop where
  os : w'.os = w.os
  tape : w'.tape = w.tape
  output : w'.output = w.output
  size : w.heap.size ≤ w'.heap.size
  low : ∀ k, k < B → w'.heap[k]? = w.heap[k]?
  rest : ∀ k, k < w.heap.size → (∀ es c, w.heap[k]? ≠ some (.map es c)) → w'.heap[k]? = w.heap[k]?
theorem KM.refl (B : Nat) (w : World) : KM B w w := ⟨rfl, rfl, rfl, Nat.le_refl _, fun _ _ => rfl, fun _ _ _ => rfl⟩
theorem KM.below {B : Nat} {w w' : World} (h : KM B w w') : Below B w w' := ⟨h.os, h.tape, h.output, h.size, h.low⟩
theorem KM.cells {B : Nat} {w w' : World} (h : KM B w w') {k : Nat} {cs : Array Value} {T : TypeId} {x : Nat × Nat} (hk : w.heap[k]? = some (.cells cs T x)) : w'.heap[k]? = some (.cells cs T x) := by
  have hl : k < w.heap.size := by
    rcases Nat.lt_or_ge k w.heap.size with h1 | h1
    · exact h1
    · rw [Array.getElem?_eq_none h1] at hk; cases hk
  exact (h.rest k hl (fun es c e => by rw [hk] at e; cases e)).trans hk
theorem KM.trans {B : Nat} {w a b : World} (h : KM B w a) (k : KM B a b) : KM B w b :=
  ⟨k.os.trans h.os, k.tape.trans h.tape, k.output.trans h.output, Nat.le_trans h.size k.size, fun i hi => (k.low i hi).trans (h.low i hi), fun i hi hn => by
    have h1 := h.rest i hi hn
    refine (k.rest i (Nat.lt_of_lt_of_le hi h.size) (fun es c e => hn es c ?_)).trans h1
    rw [← h1]
    exact e⟩
theorem KM.of_grown {B : Nat} {a b : World} {row : Option Nat} (g : a.grownBy b row) (hB : B ≤ a.heap.size) (hr : ∀ q, row = some q → B ≤ q ∧ (a.heap.size ≤ q ∨ ∃ es c, a.heap[q]? = some (.map es c))) : KM B a b :=
  ⟨g.os, g.tape, g.output, g.size, fun k hk => g.block k (by omega) (fun e => by have := (hr k e.symm).1; omega), fun k hk hn => g.block k hk (fun e => by
    rcases (hr k e.symm).2 with h1 | ⟨es, c, h1⟩
    · omega
    · exact hn es c h1)⟩
theorem KM.grown {B : Nat} {w a b : World} (h : KM B w a) {row : Option Nat} (g : a.grownBy b row) (hB : B ≤ a.heap.size) (hr : ∀ q, row = some q → B ≤ q ∧ (w.heap.size ≤ q ∨ ∃ es c, a.heap[q]? = some (.map es c))) : KM B w b :=
  ⟨g.os.trans h.os, g.tape.trans h.tape, g.output.trans h.output, Nat.le_trans h.size g.size, fun k hk => (g.block k (by omega) (fun e => by have := (hr k e.symm).1; omega)).trans (h.low k hk), fun k hk hn => by
    have h0 := h.rest k hk hn
    refine (g.block k (Nat.lt_of_lt_of_le hk h.size) (fun e => ?_)).trans h0
    rcases (hr k e.symm).2 with h1 | ⟨es, c, h1⟩
    · omega
    · exact hn es c (by rw [← h0]; exact h1)⟩
theorem ownsMap_map {H : Type} {P : Program} {k : TypeId} {R : Value → Option (DataW H × List MemPlace)} {w : World} {b n : Nat} {D : DataW H} (h : w.ownsMap P k R b n D) : ∃ es c, w.heap[b]? = some (.map es c) := by
  obtain ⟨es, clock, h1, _⟩ := h
  exact ⟨es, clock, h1⟩
end Go.Proofs.YtjgiiciniplbnaaGreatDoor

namespace Go.Proofs.YtjgiiciniplbnaaGreatDoor
open Go Go.RowKit Go.Lib Go.Sort
open Go.Maps (Keyed)
set_option linter.unusedVariables false

theorem ranges_ne {H : Type} {P : Program} {k : TypeId} {R : Value → Option (DataW H × List MemPlace)} {w : World} {b r n q : Nat} {D : DataW H} {left : Lit → Bool} {cnt : Nat} (h : w.ranges P k R b r n D left cnt) (hm : ∃ es c, w.heap[q]? = some (.map es c)) : r ≠ q := fun e => by
  obtain ⟨es, clock, since, seen, c0, _, _, _, _, hi, _⟩ := h
  obtain ⟨es2, c2, h2⟩ := hm
  subst e
  rw [hi] at h2
  cases h2
theorem ranges_ncell {H : Type} {P : Program} {k : TypeId} {R : Value → Option (DataW H × List MemPlace)} {w : World} {b r n q : Nat} {D : DataW H} {left : Lit → Bool} {cnt : Nat} (h : w.ranges P k R b r n D left cnt) {cs : Array Value} {T : TypeId} {x : Nat × Nat} (hm : w.heap[q]? = some (.cells cs T x)) : r ≠ q := fun e => by
  obtain ⟨es, clock, since, seen, c0, _, _, _, _, hi, _⟩ := h
  subst e
  rw [hi] at hm
  cases hm
theorem map_ncell {w : World} {b q : Nat} (h : ∃ es c, w.heap[b]? = some (.map es c)) {cs : Array Value} {T : TypeId} {x : Nat × Nat} (hm : w.heap[q]? = some (.cells cs T x)) : b ≠ q := fun e => by
  obtain ⟨es, c, h1⟩ := h
  subst e
  rw [h1] at hm
  cases hm
theorem CM.iter {B : Nat} {w w' : World} {N cb mb n : Nat} {D : DataW Unit} {J : Jt} (h : CM B w N cb mb n D J) {r : Nat} (g : w.grownBy w' (some r)) (hr : ∀ q, (∃ es c, w.heap[q]? = some (.map es c)) → r ≠ q) (hc : r ≠ cb) : CM B w' N cb mb n D J :=
  ⟨(g.block cb (lt_of_heap h.blk) (by simp; exact fun e => hc e.symm)).trans h.blk, h.ne, h.lo, h.out.kept g (by simp; exact fun e => hr mb (ownsMap_map h.out) e.symm), h.n, h.non, h.at_, fun kl a e => ⟨(h.inn kl a e).1.grown g (by simp; exact fun e2 => hr a.1 (ownsMap_map (h.inn kl a e).1.own) e2.symm), (h.inn kl a e).2⟩, h.dig, h.inj⟩
theorem sw_yes {clock t : Int} (h : curr t clock = true) : sw clock (some t) = some t := by show (if curr t clock = true then some t else none) = some t; rw [if_pos h]
theorem sw_no {clock t : Int} (h : curr t clock = false) : sw clock (some t) = none := by show (if curr t clock = true then some t else none) = none; rw [if_neg (by rw [h]; decide)]
open Classical in
/-- other claims for one object -/
noncomputable def Jset (J : Jt) (kl : Lit) (o : Option (Nat × Nat × DataW Unit)) : Jt := fun z => if z = kl then o else J z
theorem Jset_same (J : Jt) (kl : Lit) (o : Option (Nat × Nat × DataW Unit)) : Jset J kl o kl = o := by unfold Jset; rw [if_pos rfl]
theorem Jset_other (J : Jt) {kl z : Lit} (o : Option (Nat × Nat × DataW Unit)) (h : z ≠ kl) : Jset J kl o z = J z := by unfold Jset; rw [if_neg h]
theorem vj_set_other (J : Jt) {kl z : Lit} (o : Option (Nat × Nat × DataW Unit)) (h : z ≠ kl) (p : Nat) : vj (Jset J kl o) z p = vj J z p := by unfold vj; rw [Jset_other J o h]
theorem CM.set {B N cb mb n ib ni nj : Nat} {w0 w : World} {D DI DX : DataW Unit} {J : Jt} {kl : Lit} (h : CM B w0 N cb mb n D J) (ha : J kl = some (ib, ni, DI)) (hblk : w.heap[cb]? = some (.cells #[.map (some mb)] 130 (0, 0))) (hout : w.ownsMap Tryz.prog 23 mapR mb n D) (hin : InM w N ib nj DX)
    (hot : ∀ kl' a, J kl' = some a → kl' ≠ kl → InM w N a.1 a.2.1 a.2.2) : CM B w N cb mb n D (Jset J kl (some (ib, nj, DX))) where
  blk := hblk
  ne := h.ne
  lo := h.lo
  out := hout
  n := h.n
  non := fun z e => by
    by_cases hz : z = kl
    · subst hz; rw [Jset_same] at e; cases e
    · rw [Jset_other J _ hz] at e; exact h.non z e
  at_ := fun z a e => by
    by_cases hz : z = kl
    · subst hz; rw [Jset_same] at e; cases e; exact h.at_ z (ib, ni, DI) ha
    · rw [Jset_other J _ hz] at e; exact h.at_ z a e
  inn := fun z a e => by
    by_cases hz : z = kl
    · subst hz; rw [Jset_same] at e; cases e; exact ⟨hin, (h.inn z (ib, ni, DI) ha).2⟩
    · rw [Jset_other J _ hz] at e; exact ⟨hot z a e hz, (h.inn z a e).2⟩
  dig := fun z a e => by
    by_cases hz : z = kl
    · subst hz; exact h.dig z _ ha
    · rw [Jset_other J _ hz] at e; exact h.dig z a e
  inj := fun z z' a b e e' hne => by
    by_cases hz : z = kl
    · subst hz
      rw [Jset_same] at e; cases e
      rw [Jset_other J _ (fun x => hne x.symm)] at e'
      exact h.inj z z' (ib, ni, DI) b ha e' hne
    · rw [Jset_other J _ hz] at e
      by_cases hz' : z' = kl
      · subst hz'
        rw [Jset_same] at e'; cases e'
        exact h.inj z z' a (ib, ni, DI) e ha hne
      · rw [Jset_other J _ hz'] at e'
        exact h.inj z z' a b e e' hne
theorem CM.cut {B N cb mb n : Nat} {w0 w : World} {D : DataW Unit} {J : Jt} {kl : Lit} (h : CM B w0 N cb mb n D J) (hblk : w.heap[cb]? = some (.cells #[.map (some mb)] 130 (0, 0))) (hout : w.ownsMap Tryz.prog 23 mapR mb n (D.del kl))
    (hot : ∀ kl' a, J kl' = some a → kl' ≠ kl → InM w N a.1 a.2.1 a.2.2) : CM B w N cb mb n (D.del kl) (Jset J kl none) where
  blk := hblk
  ne := h.ne
  lo := h.lo
  out := hout
  n := h.n
  non := fun z e => by
    by_cases hz : z = kl
    · subst hz; exact Maps.has_del_same
    · rw [Jset_other J _ hz] at e; rw [Maps.has_del_other hz]; exact h.non z e
  at_ := fun z a e => by
    by_cases hz : z = kl
    · subst hz; rw [Jset_same] at e; cases e
    · rw [Jset_other J _ hz] at e; exact fun y => (Maps.atKey_del_other hz y).trans (h.at_ z a e y)
  inn := fun z a e => by
    by_cases hz : z = kl
    · subst hz; rw [Jset_same] at e; cases e
    · rw [Jset_other J _ hz] at e; exact ⟨hot z a e hz, (h.inn z a e).2⟩
  dig := fun z a e => by
    by_cases hz : z = kl
    · subst hz; rw [Jset_same] at e; cases e
    · rw [Jset_other J _ hz] at e; exact h.dig z a e
  inj := fun z z' a b e e' hne => by
    by_cases hz : z = kl
    · subst hz; rw [Jset_same] at e; cases e
    · rw [Jset_other J _ hz] at e
      by_cases hz' : z' = kl
      · subst hz'; rw [Jset_same] at e'; cases e'
      · rw [Jset_other J _ hz'] at e'; exact h.inj z z' a b e e' hne
/-- the views behind an object's turn -/
theorem sweep_next {J J2 : Jt} {left : Lit → Bool} {clock : Int} {kl : Lit} {o : Option (Nat × Nat × DataW Unit)} (hk : WideAt.IsKeyLit kl) (hl : left kl = true) (hv : ∀ z p, vj J2 z p = if left z = true then vj J z p else sw clock (vj J z p)) (ho : ∀ p, vj (Jset J2 kl o) kl p = sw clock (vj J2 kl p)) :
    ∀ z p, vj (Jset J2 kl o) z p = if (fun z => left z && !z.sameKey kl) z = true then vj J z p else sw clock (vj J z p) := fun z p => by
  by_cases hz : z = kl
  · subst hz
    have e : (fun y => left y && !y.sameKey z) z = false := by simp [WideAt.sameKey_self hk]
    rw [ho p, hv z p, if_pos hl, if_neg (by rw [e]; decide)]
  · have e : (fun y => left y && !y.sameKey kl) z = left z := by simp [Maps.sameKey_ne hz]
    rw [vj_set_other J2 o hz, hv z p, e]
set_option maxRecDepth 100000 in
set_option maxHeartbeats 16000000 in
theorem Sweep_any (B N cb mb n : Nat) (D : DataW Unit) (J : Jt) (clock : Int) (hc0 : 0 ≤ clock) (hc1 : clock < 18446744073709551616) (w : World) (hc : CM B w N cb mb n D J) :
    Calls Tryz.prog 35 #[.pointer (some ⟨cb, 0, none⟩), .int .u64 clock] w fun e w' => e = .returned (.tuple #[]) ∧ KM B w w' ∧ ∃ D' J', CM B w' N cb mb n D' J' ∧ ∀ kl p, vj J' kl p = sw clock (vj J kl p) := by
  have HC := hid hc
  have hcell : w.cell? ⟨cb, 0, none⟩ = some (.map (some mb)) := cell_of_heap hc.blk 0
  have hmb := hc.out.lt
  have hBw : B ≤ w.heap.size := by have := hc.lo; omega
  have HKL := hid (show ∀ p : Nat, p < 16 → keyOf Tryz.prog 3 (.int .i64 (p : Int)) = some (.int .i64 (p : Int)) from fun p hp => Maps.keyOf_int_mk Tryz.underlying3 (by
    have e1 : IntKind.i64.min = -9223372036854775808 := rfl
    have e2 : IntKind.i64.max = 9223372036854775807 := rfl
    simp only [Lit.wf, Bool.and_eq_true, decide_eq_true_eq]
    omega))
  go_enter Tryz.func35, Tryz.ntmps35
  go_wp2_with (first
    | (at_range; refine wpList_range_own _ rfl _ 128 rfl 23 132 keyedD Tryz.underlying128 mapR mb n _ rfl hc.out ?_; intro w0 hrg0 hg0 hs0)
    | go_in)
  go_frame
  obtain ⟨r, hr⟩ : ∃ y, y = w.heap.size := ⟨_, rfl⟩
  rw [← hr] at hrg0 ⊢
  have hrw : w.heap.size ≤ r := by omega
  have HRG0 := hid hrg0
  have HK0 := hid ((KM.refl B w).grown hg0 hBw (fun q hq => by cases hq))
  have HC0 := hid (hc.grown hg0)
  have HV0 := hid (show ∀ kl p, vj J kl p = if Maps.has D kl = true then vj J kl p else sw clock (vj J kl p) from fun kl p => by
    by_cases h : Maps.has D kl = true
    · rw [if_pos h]
    · rw [if_neg h, vj_none (hc.hasnt (by simpa using h))]
      rfl)
  clear hrg0 hg0 hs0 hcell hr hc
  go_loopw [4] (fun _ wr => ∃ (left : Lit → Bool) (cnt : Nat) (D2 : DataW Unit) (J2 : Jt), Hid (wr.ranges Tryz.prog 23 mapR mb r n D2 left cnt) ∧ Hid (KM B w wr) ∧ Hid (CM B wr N cb mb n D2 J2) ∧ Hid (∀ kl p, vj J2 kl p = if left kl = true then vj J kl p else sw clock (vj J kl p))) (fun _ wr => wr.rangeLeft mb r)
  case atStart => exact ⟨_, _, _, _, HRG0, HK0, HC0, HV0⟩
  case round =>
    clear HRG0 HK0 HC0 HV0
    obtain ⟨left, cnt, D2, J2, HRG, HKW, HCM, HVW⟩ := hrel
    obtain ⟨wo, rfl⟩ : ∃ y : World, y = wr := ⟨_, rfl⟩
    have hcell0 : wo.cell? ⟨cb, 0, none⟩ = some (.map (some mb)) := cell_of_heap HCM.out.blk 0
    have hBo : B ≤ wo.heap.size := Nat.le_trans hBw HKW.out.size
    go_wp2_with (first
      | (at_next; refine wpList_next_ranges _ rfl _ rfl 23 keyedD mapR (fun x : Value => x) Value.map (fun key kl h => ⟨key, rfl⟩) (fun v y h => mapR_inv h) mb r n _ _ _ rfl HRG.out ?_ ?_)
      | go_in)
    · intro _ hl0
      have HL0 := hid hl0
      clear hl0
      go_wp2
      go_end0
      refine ⟨rfl, HKW.out, D2, J2, HCM.out, fun kl p => ?_⟩
      rw [HVW.out kl p, if_neg (by rw [HL0.out]; decide)]
    · intro x c kl y1 yp w1 cnt1 hkx hlx hRc hat hrg1 hlt1 hg1 hs1 hen
      have hhas : Maps.has D2 kl = true := Maps.has_true_of_atKey hat
      obtain ⟨a, ha⟩ := HCM.out.has hhas
      obtain ⟨ib, ni, DI⟩ := a
      have hat2 := (HCM.out.at_ kl _ ha .nil).symm.trans (hat .nil)
      obtain rfl : y1 = .lit (.int .i64 (ib : Int)) := hat2.symm
      have ec := mapR_some hRc
      simp only [Value.map.injEq] at ec
      subst ec
      obtain ⟨obj, ho, hlt, hko⟩ := HCM.out.dig kl _ ha
      have ex := keyedD.inj hkx hko
      subst ex
      obtain ⟨hin, him, hic, hil⟩ := HCM.out.inn kl _ ha
      have HAJ := hid ha
      have HRI := hid (fun q hq => ranges_ne HRG.out (q := q) hq)
      have hrc := ranges_ncell HRG.out HCM.out.blk
      have HCM1 := hid (HCM.out.iter hg1 (fun q hq => HRI.out q hq) hrc)
      have HK1 := hid (HKW.out.grown hg1 hBo (fun q hq => by cases hq; exact ⟨by omega, .inl hrw⟩))
      have HRG1 := hid hrg1
      have HLT0 := hid hlt1
      have HLX := hid hlx
      have HO := hid ho
      have HKO := hid hko
      obtain ⟨OB, hOB⟩ : ∃ y, y = (u8s obj).toArray := ⟨_, rfl⟩
      have HOB := hid hOB
      have HIFI := hid (infoDA obj ho)
      have HSZI := hid (zeroDA obj ho)
      have HONE := hid (oneDA obj)
      have HIF := hid (infoD obj ho)
      rw [← hOB] at HIFI HSZI HONE HKO hen ⊢
      have hen1 : (Instr.entry (.pointer (some ⟨r, 0, none⟩))).run Tryz.prog w1 = .ok (.tuple #[.agg OB, .map (some ib)]) w1 := hen
      have HIM := hid him
      have HIC := hid hic
      have HIL := hid hil
      clear hat hrg1 hlt1 hg1 hs1 hen hkx hRc hat2 hin hko ho hlt hOB hlx ha hhas him hic hil
      go_upto_region 4 with (first
        | (refine wpList_store_row (by rfl) 23 (.tmp 4) (.tmp 18) (by rfl) w1.heap.size (u8s (List.replicate 32 0)).toArray OB 23 (by rfl) (by rfl) (heap_new w1 _) HIFI.out HSZI.out HONE.out ?_
           intro w2 hw2 hk2)
        | go_in)
      have hb12 : Below w1.heap.size w1 w2 := ((Below.refl w1.heap.size w1).alloc (Nat.le_refl _) (.cells (u8s (List.replicate 32 0)).toArray 23)).trans (hk2.below (by simp) (Nat.le_refl _))
      obtain ⟨kb, hkb⟩ : ∃ y, y = w1.heap.size := ⟨_, rfl⟩
      rw [← hkb] at hw2 ⊢
      have HCM2 := hid (HCM1.out.below hb12)
      have HRG2 := hid (HRG1.out.kept (grown_below hb12) (by simp) (by simp))
      have hB1 : B ≤ w1.heap.size := Nat.le_trans hBw HK1.out.size
      have HK2 := hid (HK1.out.grown (grown_below hb12) hB1 (fun q hq => by cases hq))
      have HW2 := hid hw2
      have hB2 : B ≤ w2.heap.size := Nat.le_trans hB1 hb12.size
      have HOWN2 := hid (HCM2.out.inn kl _ HAJ.out).1.own
      clear hw2 hk2 hb12 hkb hen1
      go_wp2_with (first
        | (at_range; refine wpList_range_own _ rfl _ 132 rfl 3 43 keyedI Tryz.underlying132 (plainElem (H := Unit) Tryz.prog 43) ib ni _ rfl HOWN2.out ?_; intro w3 hrg3 hg3 hs3)
        | go_in)
      try go_frame
      obtain ⟨r2, hr2⟩ : ∃ y, y = w2.heap.size := ⟨_, rfl⟩
      rw [← hr2] at hrg3 ⊢
      have hr2w : w.heap.size ≤ r2 := by have := HK2.out.size; omega
      have HRI3 := hid hrg3
      have HRO3 := hid (HRG2.out.kept hg3 (by simp) (by simp))
      have HK3 := hid (HK2.out.grown hg3 hB2 (fun q hq => by cases hq))
      have HCM3 := hid (HCM2.out.grown hg3)
      have HW3 := hid ((hg3.block kb (lt_of_heap HW2.out) (by simp)).trans HW2.out)
      have HR2 := hid (show r2 ≠ r ∧ r2 ≠ mb ∧ r2 ≠ kb ∧ r2 ≠ cb from ⟨by have := HRG2.out.lt; omega, by have := HRG2.out.owns.lt; omega, by have := lt_of_heap HW2.out; omega, by have := lt_of_heap HCM2.out.blk; omega⟩)
      have HOT3 := hid (show ∀ kl' a, J2 kl' = some a → kl' ≠ kl → InM w3 N a.1 a.2.1 a.2.2 from fun kl' a e _ => (HCM3.out.inn kl' a e).1)
      have HVI3 := hid (show ∀ p : Nat, vw DI p = if Maps.has DI (.int .i64 (p : Int)) = true then vw DI p else sw clock (vw DI p) from fun p => by
        by_cases h : Maps.has DI (.int .i64 (p : Int)) = true
        · rw [if_pos h]
        · rw [if_neg h, vw_not_has (by simpa using h)]
          rfl)
      have HKY3 := hid (HCM3.out.inn kl _ HAJ.out).1.keys
      have HNI := hid (HCM3.out.inn kl _ HAJ.out).1.ni
      have HBL3 := hid HCM3.out.blk
      clear hrg3 hg3 hs3 hr2
      go_loopw [6] (fun _ wx => ∃ (li : Lit → Bool) (ci : Nat) (DX : DataW Unit), Hid (wx.ranges Tryz.prog 3 (plainElem (H := Unit) Tryz.prog 43) ib r2 ni DX li ci) ∧ Hid (wx.ranges Tryz.prog 23 mapR mb r n D2 (fun z => left z && !z.sameKey kl) cnt1) ∧ Hid (KM B w wx) ∧ Hid (wx.heap[kb]? = some (.cells OB 23 (0, 0))) ∧ Hid (wx.heap[cb]? = some (.cells #[.map (some mb)] 130 (0, 0))) ∧ Hid (∀ kl' a, J2 kl' = some a → kl' ≠ kl → InM wx N a.1 a.2.1 a.2.2) ∧ Hid (∀ p : Nat, vw DX p = if li (.int .i64 (p : Int)) = true then vw DI p else sw clock (vw DI p)) ∧ Hid (∀ k, Maps.has DX k = true → ∃ p : Nat, p < 16 ∧ k = .int .i64 (p : Int))) (fun _ wx => wx.rangeLeft ib r2)
      case atStart => exact ⟨_, _, _, HRI3, HRO3, HK3, HW3, HBL3, HOT3, HVI3, HKY3⟩
      case round =>
        clear HRI3 HRO3 HK3 HW3 HBL3 HOT3 HVI3 HKY3 HRG2 HK2 HW2 HOWN2 HRG1 HK1 HCM1 HCM2 HCM3
        obtain ⟨li, ci, DX, HRX, HRO, HKI, HWI, HBI, HOT, HVI, HKY⟩ := hrel
        obtain ⟨wx, rfl⟩ : ∃ y : World, y = wr := ⟨_, rfl⟩
        have hBx : B ≤ wx.heap.size := Nat.le_trans hBw HKI.out.size
        go_wp2_with (first
          | (at_next; refine wpList_next_ranges_ii _ rfl _ rfl 3 43 .i64 .u64 keyedI Tryz.underlying3 Tryz.underlying43 ib r2 ni _ _ _ rfl HRX.out ?_ ?_)
          | go_in)
        · intro _ hli0
          have HVF := hid (show ∀ p, vw DX p = sw clock (vw DI p) from fun p => by rw [HVI.out p, if_neg (by rw [hli0]; decide)])
          clear hli0
          have HMS := hid (show wx.rangeLeft mb r < wo.rangeLeft mb r from by rw [HRO.out.left_eq, HRG.out.left_eq]; exact HLT0.out)
          have hikl : WideAt.IsKeyLit kl := keyedD.key HKO.out
          by_cases hz : Maps.size DX = 0
          · go_upto_region 10 with (first
              | (at_len; refine wpList_len_own _ rfl _ 132 rfl 3 43 Tryz.underlying132 (plainElem (H := Unit) Tryz.prog 43) ib ni _ rfl HRX.out.owns ?_; rw [hz])
              | go_in)
            have HVN := hid (show ∀ p, vw DX p = none from vw_size HRX.out.owns.isMap hz)
            have HSS := hid (show ∀ wy : World, wy.heap[cb]? = wx.heap[cb]? → wy.heap[kb]? = wx.heap[kb]? → wy.cell? ⟨cb, 0, none⟩ = some (.map (some mb)) ∧ (loadVar 23 ⟨kb, 0, none⟩).run Tryz.prog wy = .ok (.agg OB) wy from fun wy h1 h2 => by
              refine ⟨cell_of_heap (h1.trans HBI.out) 0, ?_⟩
              have h3 := h2.trans HWI.out
              rw [HOB.out] at h3 ⊢
              exact run_loadVar_mid (P := Tryz.prog) wy kb 0 23 (u8s obj) _ (range_of_heapI h3) Tryz.underlying23 rfl HIF.out)
            clear hz
            refine wp_region_held_drew (S := (fun wy : World => wy.cell? ⟨cb, 0, none⟩ = some (.map (some mb)) ∧ (loadVar 23 ⟨kb, 0, none⟩).run Tryz.prog wy = .ok (.agg OB) wy)) (by kernel_rfl) (HSS.out _ ((bel_drewN (Below.refl wx.heap.size wx) 1).block cb (lt_of_heap HBI.out)) ((bel_drewN (Below.refl wx.heap.size wx) 1).block kb (lt_of_heap HWI.out))) (fun hHeld => ?_)
            refine wpAnyH_take (i := 0) (oi := { dst := some 36, op := Op.move (Operand.tmp 0), type := 40, pos := "claims.go:65", after := #[], guard := none }) (v := ?_) rfl (by kernel_rfl) (by kernel_rfl) (by kernel_rfl) (fun _ _ _ h => h) (Or.inl ⟨by rfl, ?hy⟩) hHeld ?_
            case hy => (intro w hSw; (try dsimp only at hSw); obtain ⟨_, _⟩ := hSw; go_simp; all_goals (with_reducible rfl))
            try simp only [Act.put, List.setIfInBounds_toArray, List.set_cons_zero, List.set_cons_succ]
            refine wpAnyH_take (i := 1) (oi := { dst := some 37, op := Op.nilCheck (Operand.tmp 36), type := 0, pos := "claims.go:65", after := #[{ on := 0, ground := Ground.data }], guard := none }) (v := ?_) rfl (by kernel_rfl) (by kernel_rfl) (by kernel_rfl) (fun _ _ _ h => h) (Or.inl ⟨by rfl, ?hy⟩) hHeld ?_
            case hy => (intro w hSw; (try dsimp only at hSw); obtain ⟨_, _⟩ := hSw; go_simp; all_goals (with_reducible rfl))
            try simp only [Act.put, List.setIfInBounds_toArray, List.set_cons_zero, List.set_cons_succ]
            refine wpAnyH_take (i := 2) (oi := { dst := some 38, op := Op.fieldAddr 130 (Operand.tmp 37) 0, type := 0, pos := "claims.go:65", after := #[{ on := 1, ground := Ground.data }], guard := none }) (v := ?_) rfl (by kernel_rfl) (by kernel_rfl) (by kernel_rfl) (fun _ _ _ h => h) (Or.inl ⟨by rfl, ?hy⟩) hHeld ?_
            case hy => (intro w hSw; (try dsimp only at hSw); obtain ⟨_, _⟩ := hSw; go_simp; all_goals (with_reducible rfl))
            try simp only [Act.put, List.setIfInBounds_toArray, List.set_cons_zero, List.set_cons_succ]
            refine wpAnyH_take (i := 3) (oi := { dst := some 39, op := Op.load 128 (Operand.tmp 38), type := 128, pos := "claims.go:65", after := #[{ on := 2, ground := Ground.data }], guard := none }) (v := ?_) rfl (by kernel_rfl) (by kernel_rfl) (by kernel_rfl) (fun _ _ _ h => h) (Or.inl ⟨by rfl, ?hy⟩) hHeld ?_
            case hy => (intro w hSw; (try dsimp only at hSw); obtain ⟨_, _⟩ := hSw; go_simp; all_goals (with_reducible rfl))
            try simp only [Act.put, List.setIfInBounds_toArray, List.set_cons_zero, List.set_cons_succ]
            refine wpAnyH_take (i := 4) (oi := { dst := some 40, op := Op.load 23 (Operand.tmp 4), type := 23, pos := "claims.go:65", after := #[], guard := none }) (v := .agg OB) rfl (by kernel_rfl) (by kernel_rfl) (by kernel_rfl) (fun _ _ _ h => h) (Or.inl ⟨by rfl, ?hy⟩) hHeld ?_
            case hy => (intro w hSw; exact run_load_opP hSw.2)
            try simp only [Act.put, List.setIfInBounds_toArray, List.set_cons_zero, List.set_cons_succ]
            refine wpAnyH_ready (rs := [5]) (by kernel_rfl) (by simp) ?_
            refine AllReadyH.cons (o := { dst := none, op := Op.call { callee := Callee.builtin Builtin.delete, args := #[Operand.tmp 39, Operand.tmp 40], argTypes := #[128, 23] }, type := 0, pos := "claims.go:65", after := #[{ on := 3, ground := Ground.data }, { on := 4, ground := Ground.data }], guard := none }) rfl (fun K hK => ?_) AllReadyH.nil
            refine step_delete_ranges rfl (.tmp 39) (.tmp 40) 128 23 rfl 132 keyedD Tryz.underlying128 mapR mb r n _ _ _ rfl (HRO.out.kept (grown_below (bel_drewN (Below.refl wx.heap.size wx) 1)) (by simp) (by simp)) (.agg OB) kl rfl HKO.out ?_
            intro w6 cnt6 hrg6 hle6 hturn6
            have HG6 := hid hturn6.grown
            have HR6 := hid hrg6
            have hmp := ownsMap_map HRO.out.owns
            have hkb := map_ncell hmp HWI.out
            have hcb2 := map_ncell hmp HBI.out
            have HK6 := hid ((HKI.out.grown (grown_below (bel_drewN (Below.refl wx.heap.size wx) 1)) hBx (fun q hq => by cases hq)).grown HG6.out (show B ≤ (wx.drewN 1).heap.size from hBx) (fun q hq => by cases hq; exact ⟨HCM.out.lo, .inr hmp⟩))
            have HM6 := hid (show w6.rangeLeft mb r < wo.rangeLeft mb r from by rw [hrg6.left_eq, HRG.out.left_eq]; have := HLT0.out; omega)
            have HB6 := hid ((HG6.out.block cb (lt_of_heap HBI.out) (by simp; omega)).trans HBI.out)
            have HO6 := hid (show ∀ kl' a, J2 kl' = some a → kl' ≠ kl → InM w6 N a.1 a.2.1 a.2.2 from fun kl' a e h => ((HOT.out kl' a e h).grown (grown_below (bel_drewN (Below.refl wx.heap.size wx) 1)) (by simp)).grown HG6.out (by simp; exact (HCM.out.inn kl' a e).2.1))
            have HC6 := hid (HCM.out.cut HB6.out hrg6.owns HO6.out)
            have HV6 := hid (sweep_next (J := J) (o := none) hikl HLX.out HVW.out (fun p => by rw [vj_none (Jset_same _ _ _) p, vj_some HAJ.out p]; exact (HVN.out p).symm.trans (HVF.out p)))
            clear hrg6 hle6 hturn6
            refine hK.out _ _ (HSS.out _ ((HG6.out.block cb (lt_of_heap HBI.out) (by simp; omega)).trans ((bel_drewN (Below.refl wx.heap.size wx) 1).block cb (lt_of_heap HBI.out))) ((HG6.out.block kb (lt_of_heap HWI.out) (by simp; omega)).trans ((bel_drewN (Below.refl wx.heap.size wx) 1).block kb (lt_of_heap HWI.out)))) (fun hHeld => ?_)
            clear hK K
            try simp only [Act.put]
            refine wpAnyH_done (by kernel_rfl) ?_ _
            go_wp2_with fail
            exact ⟨⟨_, _, _, _, HR6, HK6, HC6, hid (fun z p => (HV6.out z p).trans (by cases h : z.sameKey kl <;> simp [h]))⟩, HM6.out⟩
          · have e0 : ((Maps.size DX : Int) == 0) = false := by simp; omega
            have HCMN := hid (HCM.out.set HAJ.out HBI.out HRO.out.owns ⟨HRX.out.owns, HNI.out, HKY.out⟩ HOT.out)
            have HVN := hid (sweep_next (J := J) (o := some (ib, ni, DX)) hikl HLX.out HVW.out (fun p => by rw [vj_some (Jset_same _ _ _) p, vj_some HAJ.out p]; exact HVF.out p))
            clear hz
            go_wp2_with (first
              | (at_len; refine wpList_len_own _ rfl _ 132 rfl 3 43 Tryz.underlying132 (plainElem (H := Unit) Tryz.prog 43) ib ni _ rfl HRX.out.owns ?_)
              | go_in)
            exact ⟨⟨_, _, _, _, HRO, HKI, HCMN, HVN⟩, HMS.out⟩
        · intro x c w4 cnt4 hwx hwc hlx4 hat4 hrg4 hlt4 hg4 hs4 hen4
          obtain ⟨p, hp, ep⟩ := HKY.out _ (Maps.has_true_of_atKey hat4)
          simp only [Lit.int.injEq, true_and] at ep
          subst ep
          have hvx := vw_at (hat4 .nil)
          have hvd : vw DI p = some c := by
            have h := HVI.out p
            rw [if_pos hlx4, hvx] at h
            exact h.symm
          obtain ⟨hc2, hc3⟩ : 0 ≤ c ∧ c < 18446744073709551616 := by
            have e1 : IntKind.u64.min = 0 := rfl
            have e2 : IntKind.u64.max = 18446744073709551615 := rfl
            simp only [Lit.wf, Bool.and_eq_true, decide_eq_true_eq] at hwc
            omega
          have HVI4 := hid (show ∀ q : Nat, q ≠ p → vw DX q = if (fun z => li z && !z.sameKey (.int .i64 (p : Int))) (.int .i64 (q : Int)) = true then vw DI q else sw clock (vw DI q) from fun q hq => by
            have e : (fun z => li z && !z.sameKey (.int .i64 (p : Int))) (.int .i64 (q : Int)) = li (.int .i64 (q : Int)) := by
              simp [Maps.sameKey_ne (show (Lit.int .i64 (q : Int)) ≠ .int .i64 (p : Int) from fun h => hq (by simp only [Lit.int.injEq, true_and] at h; omega))]
            rw [e]
            exact HVI.out q)
          have HVX := hid hvx
          have HVD := hid hvd
          have HPP := hid hp
          have HCU := hid (isCurrent_any c clock hc2 hc3 hc0 hc1 w4)
          have HRI4 := hid (fun q hq => ranges_ne HRX.out (q := q) hq)
          have HOT4 := hid (show ∀ kl' a, J2 kl' = some a → kl' ≠ kl → InM w4 N a.1 a.2.1 a.2.2 from fun kl' a e h => (HOT.out kl' a e h).grown hg4 (by simp; exact fun e2 => HRI4.out a.1 (ownsMap_map (HOT.out kl' a e h).own) e2.symm))
          have HRO4 := hid (HRO.out.kept hg4 (by have := HR2.out; simp; omega) (by have := HR2.out; simp; omega))
          have HKI4 := hid (HKI.out.grown hg4 hBx (fun q hq => by cases hq; exact ⟨by omega, .inl hr2w⟩))
          have HWI4 := hid ((hg4.block kb (lt_of_heap HWI.out) (by have := HR2.out; simp; omega)).trans HWI.out)
          have HBI4 := hid ((hg4.block cb (lt_of_heap HBI.out) (by have := HR2.out; simp; omega)).trans HBI.out)
          have HRX4 := hid hrg4
          have HM4 := hid (show w4.rangeLeft ib r2 < wx.rangeLeft ib r2 from by rw [hrg4.left_eq, HRX.out.left_eq]; exact hlt4)
          have HLT4 := hid hlt4
          have HIL4 := hid HRX.out.left_eq
          have hB4 : B ≤ w4.heap.size := by omega
          have hsk : (fun z => li z && !z.sameKey (.int .i64 (p : Int))) (.int .i64 (p : Int)) = false := by simp [WideAt.sameKey_self (show WideAt.IsKeyLit (.int .i64 (p : Int)) from trivial)]
          have HSK := hid hsk
          clear hat4 hrg4 hlt4 hg4 hs4 hlx4 hvx hvd hwc hwx hp hsk hc2 hc3 HVI
          rcases Bool.eq_false_or_eq_true (curr c clock) with hcu | hcu
          · have h6 := HCU.out
            rw [show (decide (c ≤ clock) && decide (clock - c < 12)) = true from hcu] at h6
            have HH := hid h6
            have HVN := hid (show ∀ q : Nat, vw DX q = if (fun z => li z && !z.sameKey (.int .i64 (p : Int))) (.int .i64 (q : Int)) = true then vw DI q else sw clock (vw DI q) from fun q => by
              by_cases hq : q = p
              · subst hq
                rw [if_neg (by rw [HSK.out]; decide), HVD.out, HVX.out]
                exact (sw_yes hcu).symm
              · exact HVI4.out q hq)
            clear hcu h6
            go_wp2_with fail
            refine HH.out.mono ?_
            rintro e w5 ⟨rfl, rfl⟩
            go_wp2_with fail
            exact ⟨⟨_, _, _, HRX4, HRO4, HKI4, HWI4, HBI4, HOT4, HVN, HKY⟩, HM4.out⟩
          · have h6 := HCU.out
            rw [show (decide (c ≤ clock) && decide (clock - c < 12)) = false from hcu] at h6
            have HH := hid h6
            have HVN := hid (show ∀ q : Nat, vw (DX.del (.int .i64 (p : Int))) q = if (fun z => (fun z => li z && !z.sameKey (.int .i64 (p : Int))) z && !z.sameKey (.int .i64 (p : Int))) (.int .i64 (q : Int)) = true then vw DI q else sw clock (vw DI q) from fun q => by
              rw [vw_del]
              by_cases hq : q = p
              · subst hq
                rw [if_pos rfl, if_neg (by simp [WideAt.sameKey_self (show WideAt.IsKeyLit (.int .i64 (q : Int)) from trivial)]), HVD.out]
                exact (sw_no hcu).symm
              · rw [if_neg hq, HVI4.out q hq]
                have e : (Lit.int .i64 (q : Int)).sameKey (.int .i64 (p : Int)) = false := Maps.sameKey_ne (fun h => hq (by simp only [Lit.int.injEq, true_and] at h; omega))
                simp [e])
            have HKYN := hid (show ∀ k, Maps.has (DX.del (.int .i64 (p : Int))) k = true → ∃ p : Nat, p < 16 ∧ k = .int .i64 (p : Int) from fun k h => by
              by_cases hk : k = .int .i64 (p : Int)
              · rw [hk, Maps.has_del_same] at h; cases h
              · rw [Maps.has_del_other hk] at h; exact HKY.out k h)
            have HKP := hid (HKL.out p HPP.out)
            clear hcu h6
            go_wp2_with fail
            refine HH.out.mono ?_
            rintro e w5 ⟨rfl, rfl⟩
            go_wp2_with (first
              | (at_delete; refine wpList_delete_ranges _ rfl _ _ 132 3 rfl 43 keyedI Tryz.underlying132 (plainElem (H := Unit) Tryz.prog 43) ib r2 ni _ _ _ rfl HRX4.out _ (.int .i64 (p : Int)) rfl HKP.out ?_
                 intro w5 cnt5 hrg5 hle5 hturn5
                 have HRX5 := hid hrg5
                 have HG5 := hid hturn5.grown
                 have HM5 := hid (show w5.rangeLeft ib r2 < wx.rangeLeft ib r2 from by rw [hrg5.left_eq, HIL4.out]; have := HLT4.out; omega)
                 clear hrg5 hle5 hturn5
                 simp only [Act.put])
              | go_in)
            have hmp := ownsMap_map HRX4.out.owns
            have hRib := ranges_ne HRO4.out hmp
            have hkb := map_ncell hmp HWI4.out
            have hcb2 := map_ncell hmp HBI4.out
            exact ⟨⟨_, _, _, HRX5, hid (HRO4.out.kept HG5.out (by have := HIM.out; simp; omega) (by simp; exact hRib)), hid (HKI4.out.grown HG5.out hB4 (fun q hq => by cases hq; exact ⟨HIL.out, .inr hmp⟩)), hid ((HG5.out.block kb (lt_of_heap HWI4.out) (by simp; omega)).trans HWI4.out), hid ((HG5.out.block cb (lt_of_heap HBI4.out) (by simp; omega)).trans HBI4.out),
              hid (fun kl' a e h => (HOT4.out kl' a e h).grown HG5.out (by simp; exact HCM.out.inj kl' kl a _ e HAJ.out h)), HVN, HKYN⟩, HM5.out⟩
end Go.Proofs.YtjgiiciniplbnaaGreatDoor
