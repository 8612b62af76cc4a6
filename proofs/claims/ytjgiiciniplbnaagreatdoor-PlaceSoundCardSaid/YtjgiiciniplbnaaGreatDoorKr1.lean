/-
  Lists of numbers in the laws: Has of the reference, a copy, the comparison. · A struct with an object in front, in memory. · append of numbers to a row of one's own: what it leaves as it was. · Rows of one's own, and parts of a list of numbers. · Offer of a Gather that has any pieces: one more, and the manifest with the first. · own: a copy of a manifest and of a piece. · The methods of a nil Claims and of a nil Gather. · checkPieces: the first error of a list of pieces. · A set of numbers as a map from int to bool: which numbers have occurred.
-/
import Derived.Test.YtjgiiciniplbnaaGreatDoorKa7
import Derived.Laws.AppendOwnNone
import Derived.Test.YtjgiiciniplbnaaGreatDoorKa9
import Derived.Test.YtjgiiciniplbnaaGreatDoorKa8
import Derived.Deep.AppendLies
import Derived.Deep.DeepCutAuto
import Derived.Test.YtjgiiciniplbnaaGreatDoorKa2
import Derived.Maps.OwnOps
import Derived.Maps.Views
namespace Go.Proofs.YtjgiiciniplbnaaGreatDoor
open Go Go.RowKit Go.Lib Go.Sort
set_option linter.unusedVariables false

set_option maxRecDepth 100000 in
set_option maxHeartbeats 4000000 in
theorem Has_any (a : Option Addr) (n c : Nat) (li : List Int) (x : Int) (w : World) (hi : Is w (.slice a n c) li) (hsz : n ≤ 1000000) :
    Calls Tryz.prog 56 #[.slice a n c, .int .i64 x] w fun e w' => e = .returned (.bool (li.contains x)) ∧ w = w' := by
  have HI := hid hi
  have hn := hi.lenP
  have HN := hid hn
  obtain ⟨R, hR⟩ : ∃ R, R = li.contains x := ⟨_, rfl⟩
  rw [← hR]
  have HR := hid hR
  clear hi hn hR
  go_enter Tryz.func56, Tryz.ntmps56
  go_wp2
  go_loopw [5] (fun iv wx => ∃ k : Nat, k ≤ n ∧ iv = .int .i64 k ∧ Hid (wx = w) ∧ Hid (∀ q, q < k → li.getD q 0 ≠ x)) (fun iv _ => n - (intOf iv).toNat)
  case atStart => exact ⟨0, by omega, rfl, hid rfl, hid (fun q h => by omega)⟩
  case round =>
    obtain ⟨k, hk, rfl, HW, HA⟩ := hrel
    have hw := HW.out
    subst hw
    by_cases hkn : k < n
    · as_aux_lemma =>
      have hkn' : (k : Int) < (n : Int) := by omega
      obtain ⟨gb, go, rfl, c1⟩ := HI.out.atP k hkn
      have HST := hid (fun (h : li.getD k 0 ≠ x) => (show ∀ q, q < k + 1 → li.getD q 0 ≠ x from fun q hq => by
        rcases Nat.lt_or_ge q k with h2 | h2
        · exact HA.out q h2
        · obtain rfl : q = k := by omega
          exact h))
      have HC := hid (fun (h : li.getD k 0 = x) => (show R = true from by
        rw [HR.out, List.contains_iff_mem, ← h, List.getD_eq_getElem?_getD, List.getElem?_eq_getElem (by rw [← HN.out]; exact hkn)]
        exact List.getElem_mem _))
      generalize li.getD k 0 = y at *
      by_cases hxy : y = x
      · have e1 : (y == x) = true := by simp [hxy]
        have e2 := HC.out hxy
        subst e2
        clear hxy
        go_wp2
        go_ret
        exact ⟨rfl, by trivial⟩
      · have e1 : (y == x) = false := by simp [hxy]
        have HE := hid hxy
        clear hxy
        go_wp2
        exact ⟨⟨k + 1, by omega, by go_num, hid (by trivial), hid (HST.out HE.out)⟩, by simp [intOf]; omega⟩
    · obtain rfl : k = n := by omega
      have hkn' : ¬ (k : Int) < (k : Int) := by omega
      have e : R = false := by
        rw [HR.out, ← Bool.not_eq_true, List.contains_iff_mem]
        intro h
        obtain ⟨q, hq, e⟩ := List.getElem_of_mem h
        exact HA.out q (by rw [HN.out]; exact hq) (by rw [List.getD_eq_getElem?_getD, List.getElem?_eq_getElem hq]; exact e)
      subst e
      go_wp2
      go_ret
      exact ⟨rfl, by trivial⟩

theorem infoZ : (Tryz.prog.info? 3).map (fun i => (i.zero, i.size, i.bytes)) = some (some (.int .i64 0), 1, 8) := by kernel_rfl
theorem is_of_ownsZ {w : World} {base : Nat} {v : Value} {m : Nat} {l : List Int} (h : w.ownsRow base 3 1 v m (i64z l)) (hl : ∀ n ∈ l, (Lit.int .i64 n).wf = true) : ∃ a c, v = .slice a m c ∧ m = l.length ∧ m ≤ c ∧ Is w v l ∧ (a = none → c = 0) ∧ ∀ ad, a = some ad → base ≤ ad.block ∧ ad.block < w.heap.size := by
  obtain ⟨h1, h2⟩ := h
  have hm : m = l.length := by simpa [i64z] using h1.symm
  rcases h2 with ⟨rfl, h0⟩ | ⟨g, cap, cur, rfl, hg, hh, hc, _, hs, ht⟩
  · have hl0 : l = [] := List.eq_nil_of_length_eq_zero (by omega)
    subst hl0; subst h0
    exact ⟨none, 0, rfl, rfl, Nat.le_refl _, ⟨none, 0, rfl, fun n h => absurd h List.not_mem_nil, fun h => absurd rfl h⟩, fun _ => rfl, fun ad h => by cases h⟩
  · refine ⟨_, cap, rfl, hm, hc, ⟨_, cap, by rw [hm], hl, fun _ => ⟨g, 0, rfl, fun i hi => ?_⟩⟩, fun h => (by cases h), fun ad h => (by cases h; exact ⟨hg, lt_of_heap hh⟩)⟩
    rw [Nat.zero_add, cell_of_heap hh]
    have h3 : (cur.toList.take (m * 1))[i]? = (i64z l)[i]? := by rw [ht]
    rw [List.getElem?_take_of_lt (by omega)] at h3
    rw [← Array.getElem?_toList, h3]
    simp [i64z, List.getElem?_eq_getElem hi]
theorem owns_blockZ {w : World} {base size : Nat} {e : TypeId} {v : Value} {m : Nat} {xs : List Value} (h : w.ownsRow base e size v m xs) : ∀ q, v.ownBlock = some q → base ≤ q := fun q hq => by
  obtain ⟨_, h2⟩ := h
  rcases h2 with ⟨rfl, _⟩ | ⟨g, cap, cur, rfl, hg, _⟩
  · cases hq
  · cases hq; exact hg
/-- append(s, x...) of numbers, s a row of one's own -/
theorem wpList_appendZ {w : World} {ops : Array Oper} {rest : List Oper} {o : Oper} {a : Act} {Q : Exit → Act → World → Prop} (hgd : o.guard = none) (s x : Operand)
    (ho : o.op = .call { callee := .builtin .append, args := #[s, x], argTypes := #[27, 27] }) (g0 : Nat) (v0 : Value) (m0 : Nat) (l0 : List Int) (hs : a.eval s = v0) (hown : w.ownsRow g0 3 1 v0 m0 (i64z l0)) (hm0 : m0 ≤ 1000000)
    (sa : Option Addr) (m c : Nat) (l : List Int) (hx : a.eval x = .slice sa m c) (hb : Is w (.slice sa m c) l) (hnil : sa = none → c = 0) (hmc : m ≤ c) (hm : m ≤ 461168601842)
    (hbase : g0 ≤ w.heap.size)
    (h : ∀ v' w', w'.ownsRow g0 3 1 v' (m0 + m) (i64z (l0 ++ l)) → Below g0 w w' → wpList Tryz.prog ops Q rest (a.put o.dst v') w') :
    wpList Tryz.prog ops Q (o :: rest) a w := by
  obtain ⟨i0, hi, hz0, hz1, hz2⟩ := info_parts infoZ
  have hlen := hb.lenP
  cases sa with
  | none =>
    obtain rfl := hnil rfl
    obtain rfl : m = 0 := by omega
    have hl0 : l = [] := List.eq_nil_of_length_eq_zero (by omega)
    subst hl0
    refine Go.wpList_append_own_none hgd s x _ ho g0 _ i0 1 Tryz.underlying27 hi _ m0 (i64z l0) hs hown hx ?_
    exact h _ _ (by simpa using hown) (Below.refl _ _)
  | some ad =>
    have hnews : ∀ j u, (i64z l)[j]? = some u → w.cell? (ad.add j) = some u := fun j u hj => by
      have hjl : j < l.length := by have := (List.getElem?_eq_some_iff.1 hj).1; simpa [i64z] using this
      obtain ⟨b, o, hv, hc⟩ := hb.atP j (by omega)
      simp only [Option.some.injEq] at hv
      subst hv
      have e : (⟨b, o, none⟩ : Addr).add j = ⟨b, o + j, none⟩ := by unfold Addr.add; split <;> simp_all
      rw [e, hc, ← hj]
      simp [i64z, List.getElem?_eq_getElem hjl, List.getD_eq_getElem?_getD]
    refine Go.wpList_append_own _ hgd s x _ ho g0 3 i0 (.int .i64 0) 1 8 Tryz.underlying27 hi hz0 hz1 hz2 rfl (by decide) _ m0 (i64z l0) hs hown ad m c (i64z l) hx (by simp [i64z]; omega) hnews (fun u hu => by
      unfold i64z at hu
      obtain ⟨y, _, rfl⟩ := List.mem_map.1 hu
      rfl) (by unfold maxLen; omega) (by omega) (by omega) ?_
    intro v' w' hown' hg hn
    exact h v' w' (by rw [show i64z (l0 ++ l) = i64z l0 ++ i64z l from by simp [i64z]]; exact hown') ((Below.refl g0 w).grown hg hbase (owns_blockZ hown))
theorem ownsZ_new {w : World} {g0 : Nat} (hg0 : w.heap[g0]? = some (.cells #[] 3 (0, 0))) : w.ownsRow g0 3 1 (.slice (some ⟨g0, 0, none⟩) 0 0) 0 (i64z []) :=
  ⟨rfl, .inr ⟨g0, 0, #[], rfl, Nat.le_refl _, hg0, Nat.le_refl _, Nat.zero_le _, rfl, rfl⟩⟩
theorem Is.wf {w : World} {v : Value} {l : List Int} (h : Is w v l) : ∀ n ∈ l, (Lit.int .i64 n).wf = true := by
  obtain ⟨_, _, _, h, _⟩ := h
  exact h

set_option maxRecDepth 100000 in
set_option maxHeartbeats 2000000 in
theorem ints_any (a : Option Addr) (n c : Nat) (li : List Int) (w : World) (hi : Is w (.slice a n c) li) (hnil : a = none → c = 0) (hnc : n ≤ c) (hsz : n ≤ 1000000) :
    Calls Tryz.prog 23 #[.slice a n c] w fun e w' => ∃ a' c', e = .returned (.slice a' n c') ∧ Is w' (.slice a' n c') li ∧ n ≤ c' ∧ (a' = none → c' = 0) ∧ (∀ ad, a' = some ad → w.heap.size ≤ ad.block) ∧ Below w.heap.size w w' := by
  obtain ⟨w1, hw1⟩ : ∃ y, y = w.alloc (.cells #[] 3) := ⟨_, rfl⟩
  have hb1 : Below w.heap.size w w1 := by rw [hw1]; exact (Below.refl _ _).alloc (Nat.le_refl _) _
  have hg1 : w1.heap[w.heap.size]? = some (.cells #[] 3 (0, 0)) := by rw [hw1]; exact heap_new _ _
  have HI1 := hid (hi.belowP hb1)
  have HWF := hid hi.wf
  have HB1 := hid hb1
  have HG1 := hid hg1
  have HW1 := hid hw1
  clear hi hb1 hg1 hw1
  go_enter Tryz.func23, Tryz.ntmps23
  go_wp2_with (
    (have h0 := HW1.out)
    (rw [← HW1.out])
    (refine wpList_appendZ (by rfl) (.tmp 3) (.tmp 4) (by rfl) w.heap.size _ 0 [] (by rfl) (ownsZ_new HG1.out) (by omega) a n c li (by rfl) HI1.out hnil hnc (by omega) (Nat.le_of_lt (lt_of_heap HG1.out)) ?_)
    (intro v' w' how hk)
    (obtain ⟨a', c', rfl, hm', hmc, hb', hnil', hbl⟩ := is_of_ownsZ how (by simpa using HWF.out))
    (rw [Nat.zero_add] at hb' hmc ⊢)
    (clear hm'))
  go_ret
  refine ⟨a', c', rfl, by simpa using hb', hmc, hnil', fun ad h => (hbl ad h).1, HB1.out.trans hk⟩
theorem eq_of_getD {l m : List Int} (h : l.length = m.length) (k : ∀ q, q < l.length → l.getD q 0 = m.getD q 0) : l = m := by
  apply List.ext_getElem h
  intro i h1 h2
  have := k i h1
  simpa [List.getD_eq_getElem?_getD, List.getElem?_eq_getElem h1, List.getElem?_eq_getElem h2] using this
set_option maxRecDepth 100000 in
set_option maxHeartbeats 4000000 in
theorem same_any (a : Option Addr) (n c : Nat) (li : List Int) (a2 : Option Addr) (n2 c2 : Nat) (lj : List Int) (w : World) (hi : Is w (.slice a n c) li) (hj : Is w (.slice a2 n2 c2) lj) (hsz : n ≤ 1000000) (hsz2 : n2 ≤ 1000000) :
    Calls Tryz.prog 19 #[.slice a n c, .slice a2 n2 c2] w fun e w' => e = .returned (.bool (decide (li = lj))) ∧ Below w.heap.size w w' := by
  have HI := hid hi
  have HJ := hid hj
  have hn := hi.lenP
  have hn2 := hj.lenP
  have HN := hid hn
  have HN2 := hid hn2
  obtain ⟨R, hR⟩ : ∃ R, R = decide (li = lj) := ⟨_, rfl⟩
  rw [← hR]
  have HR := hid hR
  clear hi hj hn hn2 hR
  by_cases hnn : n = n2
  · subst hnn
    have HEQ := hid (fun (h : ∀ q, q < n → li.getD q 0 = lj.getD q 0) => (show R = true from by
      rw [HR.out]
      exact decide_eq_true (eq_of_getD (HN.out.symm.trans HN2.out) (by rw [← HN.out]; exact h))))
    have HNE := hid (fun (q : Nat) (h : li.getD q 0 ≠ lj.getD q 0) => (show R = false from by
      rw [HR.out]
      exact decide_eq_false (fun e => h (by rw [e]))))
    clear HR HN HN2
    go_enter Tryz.func19, Tryz.ntmps19
    go_wp2
    go_loopw [5] (fun iv wx => ∃ k : Nat, k ≤ n ∧ iv = .int .i64 k ∧ Hid (Below w.heap.size w wx) ∧ Hid (∀ q, q < k → li.getD q 0 = lj.getD q 0)) (fun iv _ => n - (intOf iv).toNat)
    case atStart => exact ⟨0, by omega, rfl, hid (Below.refl _ _), hid (fun q h => by omega)⟩
    case round =>
      obtain ⟨k, hk, rfl, HB, HA⟩ := hrel
      by_cases hkn : k < n
      · as_aux_lemma =>
        have hkn' : (k : Int) < (n : Int) := by omega
        obtain ⟨gb, go, rfl, c1⟩ := (HI.out.belowP HB.out).atP k hkn
        obtain ⟨gb2, go2, rfl, c2⟩ := (HJ.out.belowP HB.out).atP k hkn
        have HST := hid (fun (h : li.getD k 0 = lj.getD k 0) => (show ∀ q, q < k + 1 → li.getD q 0 = lj.getD q 0 from fun q hq => by
          rcases Nat.lt_or_ge q k with h2 | h2
          · exact HA.out q h2
          · obtain rfl : q = k := by omega
            exact h))
        have HC := hid (HNE.out k)
        clear HNE HEQ HA HI HJ
        generalize li.getD k 0 = y at *
        generalize lj.getD k 0 = z at *
        by_cases hxy : y = z
        · have e1 : (y == z) = true := by simp [hxy]
          have e2 : (y != z) = false := by simp [hxy]
          have HE := hid (HST.out hxy)
          clear hxy HST HC
          go_wp2
          go_quiet (fail)
          go_wp2
          exact ⟨⟨k + 1, by omega, by go_num, hid (bel_drewN HB.out _), HE⟩, by simp [intOf]; omega⟩
        · have e1 : (y == z) = false := by simp [hxy]
          have e2 : (y != z) = true := by simp [hxy]
          have e3 := HC.out hxy
          subst e3
          clear hxy HC HST
          go_wp2
          go_quiet (fail)
          go_wp2
          go_ret
          exact ⟨rfl, bel_drewN HB.out _⟩
      · obtain rfl : k = n := by omega
        have hkn' : ¬ (k : Int) < (k : Int) := by omega
        have e := HEQ.out HA.out
        subst e
        go_wp2
        go_ret
        exact ⟨rfl, HB.out⟩
  · have e : R = false := by
      rw [HR.out]
      exact decide_eq_false (fun h => hnn (by rw [HN.out, HN2.out, h]))
    subst e
    have h1 : ((n : Int) == (n2 : Int)) = false := by simp; omega
    have h2 : ((n : Int) != (n2 : Int)) = true := by simp; omega
    have h3 : ¬ (n : Int) = (n2 : Int) := by omega
    clear HR HN HN2 hnn
    go_enter Tryz.func19, Tryz.ntmps19
    go_wp2
    go_ret
    exact ⟨rfl, Below.refl _ _⟩
end Go.Proofs.YtjgiiciniplbnaaGreatDoor

namespace Go.Proofs.YtjgiiciniplbnaaGreatDoor
open Go Go.RowKit Go.Lib Go.Sort
set_option linter.unusedVariables false

theorem infoD (obj : List Nat) (ho : obj.length = 32) : (Tryz.prog.info? 23).map (·.size) = some (u8s obj).length := by
  rw [show (u8s obj).length = 32 from by simp [u8s, ho]]; kernel_rfl
theorem infoDA (obj : List Nat) (ho : obj.length = 32) : (Tryz.prog.info? 23).map (·.size) = some (u8s obj).toArray.size := by
  rw [List.size_toArray]; exact infoD obj ho
theorem zeroDA (obj : List Nat) (ho : obj.length = 32) : ((u8s (List.replicate 32 0)).toArray : Array Value).size = (u8s obj).toArray.size := by
  simp [u8s, ho]
theorem oneDA (obj : List Nat) : (u8s obj).toArray.all (·.oneCell') = true := all_oneCell_toArray (u8s_oneH _)
theorem load_dig {w : World} {b : Nat} {obj : List Nat} (ho : obj.length = 32) (h : OwnD w b obj) : (loadVar 23 ⟨b, 0, none⟩).run Tryz.prog w = .ok (.agg (u8s obj).toArray) w :=
  run_loadVar_mid (P := Tryz.prog) w b 0 23 (u8s obj) _ (range_own h) Tryz.underlying23 rfl (infoD obj ho)
theorem box_cell {w : World} {b : Nat} {obj : List Nat} {vals : List Value} {T : TypeId} (h : w.heap[b]? = some (.cells (u8s obj ++ vals).toArray T (0, 0))) (ho : obj.length = 32) (j : Nat) (v : Value) (hj : vals[j]? = some v) : w.cell? ⟨b, 32 + j, none⟩ = some v := by
  rw [cell_of_heap h, List.getElem?_toArray, List.getElem?_append_right (by simp [u8s, ho])]
  simpa [u8s, ho] using hj
theorem box_dig {w : World} {b : Nat} {obj : List Nat} {vals : List Value} {T : TypeId} (h : w.heap[b]? = some (.cells (u8s obj ++ vals).toArray T (0, 0))) (ho : obj.length = 32) : (loadVar 23 ⟨b, 0, none⟩).run Tryz.prog w = .ok (.agg (u8s obj).toArray) w :=
  run_loadVar_mid (P := Tryz.prog) w b 0 23 (u8s obj) _ (fun j v hj => by
    rw [Nat.zero_add, cell_of_heap h, List.getElem?_toArray, List.getElem?_append_left (by
      have := (List.getElem?_eq_some_iff.1 hj).1
      exact this)]
    exact hj) Tryz.underlying23 rfl (infoD obj ho)
end Go.Proofs.YtjgiiciniplbnaaGreatDoor

namespace Go.Proofs.YtjgiiciniplbnaaGreatDoor
open Go Go.RowKit Go.Lib Go.Sort
set_option linter.unusedVariables false

theorem wp_appendG {w : World} {o : Oper} {a : Act} {K : Act → World → Prop} {Q : Exit → Act → World → Prop} (s x : Operand)
    (ho : o.op = .call { callee := .builtin .append, args := #[s, x], argTypes := #[27, 27] }) (g0 : Nat) (v0 : Value) (m0 : Nat) (l0 : List Int) (hs : a.eval s = v0) (hown : w.ownsRow g0 3 1 v0 m0 (i64z l0)) (hm0 : m0 ≤ 1000000)
    (sa : Option Addr) (m c : Nat) (l : List Int) (hx : a.eval x = .slice sa m c) (hb : Is w (.slice sa m c) l) (hnil : sa = none → c = 0) (hmc : m ≤ c) (hm : m ≤ 461168601842) (hbase : g0 ≤ w.heap.size)
    (h : ∀ v' w', w'.ownsRow g0 3 1 v' (m0 + m) (i64z (l0 ++ l)) → w.grownBy w' v0.ownBlock → K (a.put o.dst v') w') :
    Oper.wp Tryz.prog o a w K Q := by
  obtain ⟨i0, hi, hz0, hz1, hz2⟩ := info_parts infoZ
  have hlen := hb.lenP
  cases sa with
  | none =>
    obtain rfl := hnil rfl
    obtain rfl : m = 0 := by omega
    have hl0 : l = [] := List.eq_nil_of_length_eq_zero (by omega)
    subst hl0
    have hrun := run_append_owned_none (P := Tryz.prog) (w := w) g0 27 o.type 3 i0 1 Tryz.underlying27 hi v0 m0 (i64z l0) hown
    unfold Oper.wp
    simp [execOp, ho, resolve, invoke, builtin, hs, hx, hrun, Result.andThen]
    exact h _ _ (by simpa using hown) ⟨rfl, rfl, rfl, Nat.le_refl _, fun _ _ _ => rfl⟩
  | some ad =>
    have hnews : ∀ j u, (i64z l)[j]? = some u → w.cell? (ad.add j) = some u := fun j u hj => by
      have hjl : j < l.length := by have := (List.getElem?_eq_some_iff.1 hj).1; simpa [i64z] using this
      obtain ⟨b, o, hv, hc⟩ := hb.atP j (by omega)
      simp only [Option.some.injEq] at hv
      subst hv
      have e : (⟨b, o, none⟩ : Addr).add j = ⟨b, o + j, none⟩ := by unfold Addr.add; split <;> simp_all
      rw [e, hc, ← hj]
      simp [i64z, List.getElem?_eq_getElem hjl, List.getD_eq_getElem?_getD]
    refine wp_append_own w s x _ ho g0 3 i0 (.int .i64 0) 1 8 Tryz.underlying27 hi hz0 hz1 hz2 rfl (by decide) _ m0 (i64z l0) hs hown ad m c (i64z l) hx (by simp [i64z]; omega) hnews (fun u hu => by
      unfold i64z at hu
      obtain ⟨y, _, rfl⟩ := List.mem_map.1 hu
      rfl) (by unfold maxLen; omega) (by omega) (by omega) ?_
    intro v' w' hown' hg _
    exact h v' w' (by rw [show i64z (l0 ++ l) = i64z l0 ++ i64z l from by simp [i64z]]; exact hown') hg
theorem step_appendG {ops : Array Oper} {w : World} {o : Oper} {a : Act} {K : Act → World → Prop} {Q : Exit → Act → World → Prop} {E : Prop} (hgd : o.guard = none) (s x : Operand)
    (ho : o.op = .call { callee := .builtin .append, args := #[s, x], argTypes := #[27, 27] }) (g0 : Nat) (v0 : Value) (m0 : Nat) (l0 : List Int) (hs : a.eval s = v0) (hown : w.ownsRow g0 3 1 v0 m0 (i64z l0)) (hm0 : m0 ≤ 1000000)
    (sa : Option Addr) (m c : Nat) (l : List Int) (hx : a.eval x = .slice sa m c) (hb : Is w (.slice sa m c) l) (hnil : sa = none → c = 0) (hmc : m ≤ c) (hm : m ≤ 461168601842) (hbase : g0 ≤ w.heap.size)
    (h : ∀ v' w', w'.ownsRow g0 3 1 v' (m0 + m) (i64z (l0 ++ l)) → w.grownBy w' v0.ownBlock → K (a.put o.dst v') w') :
    if Region.wanted o (yielded ops a.tmps) = true then Oper.wp Tryz.prog o a w K Q else E := by
  rw [if_pos (by simp [Region.wanted, hgd])]
  exact wp_appendG s x ho g0 v0 m0 l0 hs hown hm0 sa m c l hx hb hnil hmc hm hbase h
theorem wpList_appendG {w : World} {ops : Array Oper} {rest : List Oper} {o : Oper} {a : Act} {Q : Exit → Act → World → Prop} (hgd : o.guard = none) (s x : Operand)
    (ho : o.op = .call { callee := .builtin .append, args := #[s, x], argTypes := #[27, 27] }) (g0 : Nat) (v0 : Value) (m0 : Nat) (l0 : List Int) (hs : a.eval s = v0) (hown : w.ownsRow g0 3 1 v0 m0 (i64z l0)) (hm0 : m0 ≤ 1000000)
    (sa : Option Addr) (m c : Nat) (l : List Int) (hx : a.eval x = .slice sa m c) (hb : Is w (.slice sa m c) l) (hnil : sa = none → c = 0) (hmc : m ≤ c) (hm : m ≤ 461168601842) (hbase : g0 ≤ w.heap.size)
    (h : ∀ v' w', w'.ownsRow g0 3 1 v' (m0 + m) (i64z (l0 ++ l)) → w.grownBy w' v0.ownBlock → wpList Tryz.prog ops Q rest (a.put o.dst v') w') :
    wpList Tryz.prog ops Q (o :: rest) a w :=
  wpList_plain hgd fun K hK => wp_appendG s x ho g0 v0 m0 l0 hs hown hm0 sa m c l hx hb hnil hmc hm hbase fun v' w' h1 h2 => hK _ _ (h v' w' h1 h2)
/-- numbers in another block than the row that grew -/
theorem Is.grown {w w' : World} {a : Option Addr} {n c : Nat} {l : List Int} {row : Option Nat} (h : Is w (.slice a n c) l) (g : w.grownBy w' row) (hne : ∀ ad, a = some ad → some ad.block ≠ row) : Is w' (.slice a n c) l := by
  obtain ⟨a', c', h1, h2, h3⟩ := h
  simp only [Value.slice.injEq] at h1
  obtain ⟨rfl, rfl, rfl⟩ := h1
  refine ⟨a, c, rfl, h2, fun hl => ?_⟩
  obtain ⟨b, o, ha, hc⟩ := h3 hl
  refine ⟨b, o, ha, fun i hi => ?_⟩
  have hi2 := hc i hi
  rw [World.cell?_of_block (g.block b (World.block_lt_of_cell? _ _ hi2) (hne _ ha))]
  exact hi2
end Go.Proofs.YtjgiiciniplbnaaGreatDoor

namespace Go.Proofs.YtjgiiciniplbnaaGreatDoor
open Go Go.RowKit Go.Lib Go.Sort
set_option linter.unusedVariables false
theorem ne_type {w : World} {a b : Nat} {x y : Array Value} {T U : TypeId} {f g : Nat × Nat} (h : w.heap[a]? = some (.cells x T f)) (k : w.heap[b]? = some (.cells y U g)) (hT : T ≠ U) : a ≠ b := fun e => by
  subst e
  rw [h] at k
  simp only [Option.some.injEq, Obj.cells.injEq] at k
  exact hT k.2.1
theorem owns_typed {w : World} {B s m : Nat} {e : TypeId} {v : Value} {xs : List Value} (h : w.ownsRow B e s v m xs) : ∀ g, v.ownBlock = some g → ∃ c, w.heap[g]? = some (.cells c e (0, 0)) := fun q hq => by
  obtain ⟨_, h2⟩ := h
  rcases h2 with ⟨rfl, _⟩ | ⟨g, cap, cur, rfl, _, hg, _⟩
  · cases hq
  · cases hq; exact ⟨_, hg⟩
theorem owns_ltW {w : World} {base size : Nat} {e : TypeId} {v : Value} {m : Nat} {xs : List Value} (h : w.ownsRow base e size v m xs) : ∀ q, v.ownBlock = some q → q < w.heap.size := fun q hq => by
  obtain ⟨c, hc⟩ := owns_typed h q hq
  exact lt_of_heap hc
theorem owns_keep {w w' : World} {B s m : Nat} {e : TypeId} {v : Value} {xs : List Value} (h : w.ownsRow B e s v m xs) (hk : ∀ g, v.ownBlock = some g → w'.heap[g]? = w.heap[g]?) : w'.ownsRow B e s v m xs := by
  obtain ⟨h1, h2⟩ := h
  refine ⟨h1, ?_⟩
  rcases h2 with h3 | ⟨g, cap, cur, rfl, h4, hg, r⟩
  · exact .inl h3
  · exact .inr ⟨g, cap, cur, rfl, h4, (hk g rfl).trans hg, r⟩
theorem fromI (g o n c k : Nat) (h : k ≤ n) (hc : n ≤ c) (w' : World) : (Instr.sliceAt 27 (.slice (some ⟨g, o, none⟩) n c) (some (.int .i64 (k : Int))) none none).run Tryz.prog w' = .ok (.slice (some (if c = k then (⟨g, o, none⟩ : Addr) else ⟨g, o + k, none⟩)) (n - k) (c - k)) w' := by
  have u1 : (k : Int) ≤ (n : Int) := by omega
  have u2 : (0 : Int) ≤ (k : Int) := by omega
  by_cases hk : c = k
  · simp [go_sem, Tryz.underlying27, Tryz.sizeOf3, u1, u2, hk]
  · simp [go_sem, Tryz.underlying27, Tryz.sizeOf3, u1, u2, hk]
theorem run_slice_opI {P : Program} {ev : Operand → Value} {o : Oper} {ty : TypeId} {x : Operand} {lo hi mx : Option Operand} {w : World} {v xv : Value} {lv hv mv : Option Value} (h : (Instr.sliceAt ty xv lv hv mv).run P w = .ok v w) (ho : o.op = .slice ty x lo hi mx := by rfl) (hx : ev x = xv := by rfl) (hl : lo.map ev = lv := by rfl) (hh : hi.map ev = hv := by rfl) (hm : mx.map ev = mv := by rfl) :
    (execOp ev o).run P w = .ok (.value v) w := by
  subst hx hl hh hm
  unfold execOp
  simp only [ho]
  simp [h]
/-- the beginning and the rest of a list in memory -/
theorem Is.takeI {w : World} {g o n c : Nat} {l : List Int} (h : Is w (.slice (some ⟨g, o, none⟩) n c) l) (k : Nat) (hk : k ≤ n) : Is w (.slice (some ⟨g, o, none⟩) k c) (l.take k) := by
  obtain ⟨a', c', h1, h2, h3⟩ := h
  simp only [Value.slice.injEq] at h1
  obtain ⟨rfl, rfl, rfl⟩ := h1
  have hl : (l.take k).length = k := by rw [List.length_take]; omega
  refine ⟨_, c, by rw [hl], fun x hx => h2 x (List.mem_of_mem_take hx), fun hne => ?_⟩
  have hl0 : l ≠ [] := by rintro rfl; simp at hne
  obtain ⟨b, o', ha, hc⟩ := h3 hl0
  refine ⟨b, o', ha, fun i hi => ?_⟩
  rw [hl] at hi
  rw [hc i (by omega), List.getD_eq_getElem?_getD, List.getD_eq_getElem?_getD, List.getElem?_take_of_lt hi]
theorem Is.dropI {w : World} {g o n c : Nat} {l : List Int} (h : Is w (.slice (some ⟨g, o, none⟩) n c) l) (hnc : n ≤ c) (k : Nat) (hk : k ≤ n) : Is w (.slice (some (if c = k then (⟨g, o, none⟩ : Addr) else ⟨g, o + k, none⟩)) (n - k) (c - k)) (l.drop k) := by
  obtain ⟨a', c', h1, h2, h3⟩ := h
  simp only [Value.slice.injEq] at h1
  obtain ⟨rfl, rfl, rfl⟩ := h1
  have hl : (l.drop k).length = l.length - k := by rw [List.length_drop]
  refine ⟨_, _, by rw [hl], fun x hx => h2 x (List.mem_of_mem_drop hx), fun hne => ?_⟩
  have hlt : k < l.length := by
    rcases Nat.lt_or_ge k l.length with h | h
    · exact h
    · exact absurd (List.drop_eq_nil_of_le h) hne
  rw [if_neg (by omega)]
  obtain ⟨b, o', ha, hc⟩ := h3 (by rintro rfl; simp at hlt)
  simp only [Option.some.injEq, Addr.mk.injEq] at ha
  obtain ⟨rfl, rfl, _⟩ := ha
  refine ⟨g, o + k, rfl, fun i hi => ?_⟩
  rw [Nat.add_assoc, hc (k + i) (by omega), List.getD_eq_getElem?_getD, List.getD_eq_getElem?_getD, List.getElem?_drop]
theorem wfN (l : List Nat) (h : ∀ x ∈ l, x < 1000000) : ∀ n ∈ l.map Int.ofNat, (Lit.int .i64 n).wf = true := fun n hn => by
  obtain ⟨y, hy, rfl⟩ := List.mem_map.1 hn
  have := h y hy
  simp [Lit.wf]
  have e1 : IntKind.i64.min = -9223372036854775808 := rfl
  have e2 : IntKind.i64.max = 9223372036854775807 := rfl
  omega
end Go.Proofs.YtjgiiciniplbnaaGreatDoor

namespace Go.Proofs.YtjgiiciniplbnaaGreatDoor
open Go Go.RowKit Go.Lib Go.Sort
set_option linter.unusedVariables false

theorem Dgs.keptR {w w' : World} {a : Option Addr} {m c gb : Nat} {D : List (List Nat)} {v : Value} (h : Dgs w a m c D) (k : KeptR gb v w w') (hb : ∀ ad, a = some ad → ad.block ≠ gb ∧ v.ownBlock ≠ some ad.block) : Dgs w' a m c D := by
  refine ⟨?_, h.cap, h.nil⟩
  obtain ⟨a', c', h1, h2, h3⟩ := h.at_
  refine ⟨a', c', h1, h2, fun hne => ?_⟩
  obtain ⟨b, o, ha, hr⟩ := h3 hne
  simp only [Value.slice.injEq] at h1
  refine ⟨b, o, ha, fun j hj => fun i u hu => ?_⟩
  have h4 := hr j hj i u hu
  have h5 := hb ⟨b, o, none⟩ (by rw [h1.1]; exact ha)
  rw [World.cell?_of_block (a := ⟨b, o + j * 32 + i, none⟩) (k.block b (World.block_lt_of_cell? _ _ h4) h5.1 h5.2)]
  exact h4
theorem Dgs.blk {w : World} {a : Option Addr} {m c : Nat} {D : List (List Nat)} (h : Dgs w a m c D) (hne : D ≠ []) (ad : Addr) (e : a = some ad) : ad.block < w.heap.size := by
  obtain ⟨b, o, ha, hr⟩ := h.rng hne
  rw [ha] at e
  cases e
  cases D with
  | nil => exact absurd rfl hne
  | cons d D =>
    have hl := h.l32 d (List.mem_cons_self ..)
    have h1 := hr 0 ((dcl (d :: D))[0]'(by simp [dcl, u8s, hl]; omega)) (List.getElem?_eq_getElem _)
    exact World.block_lt_of_cell? _ _ h1
theorem Bs.blk {w : World} {a : Option Addr} {n c : Nat} {l : List Nat} (h : Bs w (.slice a n c) l) (hne : l ≠ []) (ad : Addr) (e : a = some ad) : ad.block < w.heap.size := by
  obtain ⟨a', c', h1, h2, h3⟩ := h
  obtain ⟨q, o, ha, hc⟩ := h3 hne
  simp only [Value.slice.injEq] at h1
  rw [h1.1.trans ha] at e
  cases e
  exact World.block_lt_of_cell? _ _ (hc 0 (by cases l with
    | nil => exact absurd rfl hne
    | cons _ _ => simp))
set_option maxRecDepth 100000 in
set_option maxHeartbeats 16000000 in
theorem Offer_any (gb : Nat) (obj : List Nat) (ho : obj.length = 32) (M : List Value) (hM : M.length = 37) (pa : Option Addr) (q pc : Nat) (ps : List (Int × Sl)) (B : Nat) (k n t s : Int) (od : List Nat) (hod : od.length = 32) (a : Option Addr) (m c : Nat) (D : List (List Nat)) (w : World) (hD : Dgs w a m c D) (hm : m ≤ 100000)
    (x : Int) (qa : Option Addr) (qn qc : Nat) (pl : List Nat) (hp : Bs w (.slice qa qn qc) pl) (hqn : qa = none → qc = 0) (hql : qn ≤ 100000000000) (hoff : Off gb (.slice qa qn qc))
    (hG : GthAt w gb obj M (.slice pa q pc)) (hown : w.ownsRow B 68 2 (.slice pa q pc) q (pcells ps)) (hq : q ≤ 1000) (hB : B ≤ w.heap.size)
    (HI : ∀ wx, Below w.heap.size w wx → Calls Tryz.prog 74 #[.pointer (some ⟨gb, 0, none⟩), .agg (mcells k n t s od (.slice a m c)).toArray, .agg #[.int .i64 x, .slice qa qn qc]] wx fun e w' => e = .returned (.int .i64 0) ∧ Below wx.heap.size wx w') :
    Calls Tryz.prog 44 #[.pointer (some ⟨gb, 0, none⟩), .agg (mcells k n t s od (.slice a m c)).toArray, .agg #[.int .i64 x, .slice qa qn qc]] w fun e w' =>
      e = .returned (.int .i64 0) ∧ ∃ M' rb cap a5 c5, M'.length = 37 ∧ GthAt w' gb obj M' (.slice (some ⟨rb, 0, none⟩) (q + 1) cap) ∧ (q = 0 → ∃ a' c', M' = mcells k n t s od (.slice a' m c') ∧ Dgs w' a' m c' D ∧ ∀ ad, a' = some ad → w.heap.size ≤ ad.block ∧ (D ≠ [] → ad.block ≠ rb)) ∧ (q ≠ 0 → M' = M) ∧
        w'.ownsRow B 68 2 (.slice (some ⟨rb, 0, none⟩) (q + 1) cap) (q + 1) (pcells (ps ++ [(x, a5, qn, c5)])) ∧ Bs w' (.slice a5 qn c5) pl ∧ qn ≤ c5 ∧ (a5 = none → c5 = 0) ∧ (∀ ad, a5 = some ad → w.heap.size ≤ ad.block ∧ (pl ≠ [] → ad.block ≠ rb)) ∧ SameRow w (.slice pa q pc) (.slice (some ⟨rb, 0, none⟩) (q + 1) cap) ∧ KeptR gb (.slice pa q pc) w w' := by
  obtain ⟨MC, hMCe⟩ : ∃ y, y = mcells k n t s od (.slice a m c) := ⟨_, rfl⟩
  have hMC : MC.length = 37 := by rw [hMCe]; exact mcells_length _ _ _ _ _ _ hod
  have HCM := hid (fun (wx : World) (b : Below w.heap.size w wx) => copy_man k n t s od a m c D wx hod (hD.below b) hm)
  rw [← hMCe] at HI HCM ⊢
  obtain ⟨w0, hw0⟩ : ∃ y, y = (w.alloc (.cells MC.toArray 62)).alloc (.cells #[.int .i64 x, .slice qa qn qc] 68) := ⟨_, rfl⟩
  have hs1 : (w.alloc (.cells MC.toArray 62)).heap.size = w.heap.size + 1 := by simp
  have hb0 : Below w.heap.size w w0 := by rw [hw0]; exact ((Below.refl _ _).alloc (Nat.le_refl _) _).alloc (by simp) _
  have hMA : w0.heap[w.heap.size]? = some (.cells MC.toArray 62 (0, 0)) := by
    rw [hw0]
    exact (heap_alloc_old _ _ (by simp)).trans (heap_new _ _)
  have hPA : w0.heap[w.heap.size + 1]? = some (.cells #[.int .i64 x, .slice qa qn qc] 68 (0, 0)) := by rw [hw0, ← hs1]; exact heap_new _ _
  have HW0 := hid hw0
  have HB0 := hid hb0
  have HMR := hid (range_of_heap hMA)
  have HPA := hid hPA
  have HIM := hid (show (Tryz.prog.info? 62).map (·.size) = some MC.length from by rw [hMC]; kernel_rfl)
  have HCK := hid HI
  have HGA := hid hG
  have HO := hid ho
  have HOD := hid hod
  have HBS := hid hp
  have HOFF := hid hoff
  have hgb : gb < w.heap.size := lt_of_heap hG
  have p0 : w0.cell? ⟨w.heap.size + 1, 0, none⟩ = some (.int .i64 x) := by rw [cell_of_heap hPA]; rfl
  have p1 : w0.cell? ⟨w.heap.size + 1, 1, none⟩ = some (.slice qa qn qc) := by rw [cell_of_heap hPA]; rfl
  have HOWN := hid hown
  have HML := hid hM
  have HDA := hid hD
  clear hw0 hs1 hb0 hMA hPA HI hG ho hMC hod hp hoff hD hown hM
  have HMCe := hid hMCe
  clear hMCe
  go_enter Tryz.func44, Tryz.ntmps44
  go_upto_region 1 with fail
  change Code.wp _ _ _ _ ((w.alloc (.cells MC.toArray 62)).alloc (.cells #[.int .i64 x, .slice qa qn qc] 68))
  rw [← HW0.out]
  clear HW0
  go_wp2_with (refine wpList_load_mid (by rfl) 62 (.tmp 4) (by rfl) w.heap.size 0 (by rfl) MC _ HMR.out Tryz.underlying62 rfl HIM.out ?_)
  refine (HCK.out w0 HB0.out).mono ?_
  rintro e w1 ⟨rfl, hb1⟩
  have HB1 := hid (HB0.out.trans (hb1.mono HB0.out.size))
  have HMR1 := hid (range_below HMR.out hb1)
  have HP1 := hid ((hb1.block _ (lt_of_heap HPA.out)).trans HPA.out)
  have HG1 := hid (HGA.out.below HB1.out)
  have c69 : w1.cell? ⟨gb, 69, none⟩ = some (.slice pa q pc) := HG1.out.pv HO.out HML.out
  clear hb1 p0 p1
  go_upto_if 22 with fail
  go_cut [] (fun wx => ∃ M3 : List Value, M3.length = 37 ∧ Hid (GthAt wx gb obj M3 (.slice pa q pc)) ∧ Hid (Kept gb w wx) ∧ Hid (wx.heap[w.heap.size + 1]? = some (.cells #[.int .i64 x, .slice qa qn qc] 68 (0, 0))) ∧ Hid (q = 0 → ∃ a' c', M3 = mcells k n t s od (.slice a' m c') ∧ Dgs wx a' m c' D ∧ ∀ ad, a' = some ad → w.heap.size ≤ ad.block) ∧ Hid (q ≠ 0 → M3 = M))
  case first =>
    rcases Nat.eq_zero_or_pos q with hq0 | hq0
    · subst hq0
      go_wp2_with (refine wpList_load_mid (by rfl) 62 (.tmp 4) (by rfl) w.heap.size 0 (by rfl) MC _ HMR1.out Tryz.underlying62 rfl HIM.out ?_)
      refine (HCM.out w1 HB1.out).mono ?_
      rintro e w2 ⟨a3, c3, rfl, hd2, hl2, hb2⟩
      have HB2 := hid (HB1.out.trans (hb2.mono HB1.out.size))
      have HP2 := hid ((hb2.block _ (lt_of_heap HP1.out)).trans HP1.out)
      have HG2 := hid (HGA.out.below HB2.out)
      have HM3 := hid (mcells_length k n t s od (.slice a3 m c3) HOD.out)
      have HON3 := hid (mcells_one k n t s od a3 m c3)
      have HI3 := hid (show (Tryz.prog.info? 62).map (·.size) = some (mcells k n t s od (.slice a3 m c3)).toArray.size from by rw [List.size_toArray, HM3.out]; kernel_rfl)
      have HF3 := hid (show 32 + (mcells k n t s od (.slice a3 m c3)).length ≤ (gcl obj M (.slice pa 0 pc)).length from by rw [HM3.out, gcl_one, HO.out, HML.out]; omega)
      have HPUT := hid (gcl_put obj HO.out M (mcells k n t s od (.slice a3 m c3)) HML.out HM3.out (.slice pa 0 pc))
      have HD2 := hid hd2
      have HL2 := hid hl2
      have HSZ1 := hid HB1.out.size
      obtain ⟨M3, hM3⟩ : ∃ y, y = mcells k n t s od (.slice a3 m c3) := ⟨_, rfl⟩
      have HME := hid hM3
      rw [← hM3] at HM3 HON3 HI3 HF3 HPUT ⊢
      have HGB := hid hgb
      clear hb2 c69 hd2 hl2 hM3
      go_wp2_with (refine wpList_store_midK (by rfl) 62 (.tmp 27) (.tmp 25) (by rfl) gb 32 M3 (gcl obj M (.slice pa 0 pc)) 158 (by rfl) (by rfl) HG2.out HF3.out HI3.out HON3.out ?_
                   intro w3 hw3 hk3
                   rw [HPUT.out] at hw3
                   have HG3 := hid (show GthAt w3 gb obj M3 (.slice pa 0 pc) from hw3)
                   have HK3 := hid hk3
                   clear hw3 hk3)
      go_meet
      refine ⟨M3, HM3.out, HG3, hid ((Kept.of_below (b := gb) HB2.out).trans HK3.out), hid ((HK3.out.block _ (lt_of_heap HP2.out) (by have := HGB.out; omega)).trans HP2.out), hid (fun _ => ⟨a3, c3, HME.out, HD2.out.kept HK3.out (fun ad e => ?_), fun ad e => ?_⟩), hid (fun h => absurd rfl h)⟩
      · have h1 := HL2.out ad e
        have h2 := HSZ1.out
        have h3 := HGB.out
        omega
      · have h1 := HL2.out ad e
        have h2 := HSZ1.out
        omega
    · have hq0' : ((q : Int) == 0) = false := by simp; omega
      have hq1 : ¬ (q : Int) = 0 := by omega
      have HQ0 := hid hq0
      clear hq0
      go_wp2_with fail
      go_meet
      exact ⟨M, HML.out, HG1, hid (Kept.of_below (b := gb) HB1.out), HP1, hid (fun h => by have := HQ0.out; omega), hid (fun _ => rfl)⟩
  case rest =>
    clear HMR HMR1 HP1 HG1 HB1 HB0 HCM HCK HPA HIM c69
    obtain ⟨M3, hM3l, HG3, HK, HP3, HQZ, HQN⟩ := hcut
    obtain ⟨w3, rfl⟩ : ∃ y, y = wc := ⟨wc, rfl⟩
    have HM3 := hid hM3l
    have HGB := hid hgb
    have hpg : w.heap.size + 1 ≠ gb := by omega
    clear hgb hM3l
    have HKP := hid (show ∀ wx, Kept gb w3 wx → wx.cell? ⟨w.heap.size + 1, 0, none⟩ = some (.int .i64 x) ∧ wx.cell? ⟨w.heap.size + 1, 1, none⟩ = some (.slice qa qn qc) from fun wx h => by
      have e := (h.block _ (lt_of_heap HP3.out) hpg).trans HP3.out
      exact ⟨by rw [cell_of_heap e]; rfl, by rw [cell_of_heap e]; rfl⟩)
    have HKR := hid (show ∀ wx : World, (∀ j, j < w3.heap.size → j ≠ gb → (Value.slice pa q pc).ownBlock ≠ some j → wx.heap[j]? = w3.heap[j]?) → wx.cell? ⟨w.heap.size + 1, 0, none⟩ = some (.int .i64 x) ∧ wx.cell? ⟨w.heap.size + 1, 1, none⟩ = some (.slice qa qn qc) from fun wx h => by
      have e := (h _ (lt_of_heap HP3.out) hpg (fun e => by have := owns_ltW HOWN.out _ e; omega)).trans HP3.out
      exact ⟨by rw [cell_of_heap e]; rfl, by rw [cell_of_heap e]; rfl⟩)
    have HB3 := hid (HBS.out.kept HK.out HOFF.out)
    have HOW3 := hid (show w3.ownsRow B 68 2 (.slice pa q pc) q (pcells ps) from owns_keep HOWN.out fun g hg => HK.out.block g (owns_ltW HOWN.out g hg) (by
      obtain ⟨cc, hcc⟩ := owns_typed HOWN.out g hg
      exact ne_type hcc HGA.out (by decide)))
    have HCL := hid (Clone2_any qa qn qc pl w3.drew (HB3.out.below (bel_drewN (Below.refl _ _) 1)) hqn hql)
    obtain ⟨i0, hi0, hz0, hz1, hz2⟩ := info_parts infoPc
    go_upto_region 8 with fail
    refine wp_region_held_drew (S := (fun wx => wx.cell? ⟨w.heap.size + 1, 0, none⟩ = some (.int .i64 x) ∧ wx.cell? ⟨w.heap.size + 1, 1, none⟩ = some (.slice qa qn qc))) (by kernel_rfl) (HKP.out _ ((Kept.refl gb w3).drewN 1)) (fun hHeld => ?_)
    refine wpAnyH_take (i := 0) (oi := { dst := some 28, op := Op.move (Operand.tmp 0), type := 58, pos := "gather.go:33", after := #[], guard := none }) (v := ?_) rfl (by kernel_rfl) (by kernel_rfl) (by kernel_rfl) (fun _ _ _ h => h) (Or.inl ⟨by rfl, ?hy⟩) hHeld ?_
    case hy => (intro w hSw; (try dsimp only at hSw); obtain ⟨_, _⟩ := hSw; go_simp; all_goals (with_reducible rfl))
    try simp only [Act.put, List.setIfInBounds_toArray, List.set_cons_zero, List.set_cons_succ]
    refine wpAnyH_take (i := 1) (oi := { dst := some 29, op := Op.move (Operand.tmp 0), type := 58, pos := "gather.go:33", after := #[], guard := none }) (v := ?_) rfl (by kernel_rfl) (by kernel_rfl) (by kernel_rfl) (fun _ _ _ h => h) (Or.inl ⟨by rfl, ?hy⟩) hHeld ?_
    case hy => (intro w hSw; (try dsimp only at hSw); obtain ⟨_, _⟩ := hSw; go_simp; all_goals (with_reducible rfl))
    try simp only [Act.put, List.setIfInBounds_toArray, List.set_cons_zero, List.set_cons_succ]
    refine wpAnyH_take (i := 2) (oi := { dst := some 30, op := Op.nilCheck (Operand.tmp 29), type := 0, pos := "gather.go:33", after := #[{ on := 1, ground := Ground.data }], guard := none }) (v := ?_) rfl (by kernel_rfl) (by kernel_rfl) (by kernel_rfl) (fun _ _ _ h => h) (Or.inl ⟨by rfl, ?hy⟩) hHeld ?_
    case hy => (intro w hSw; (try dsimp only at hSw); obtain ⟨_, _⟩ := hSw; go_simp; all_goals (with_reducible rfl))
    try simp only [Act.put, List.setIfInBounds_toArray, List.set_cons_zero, List.set_cons_succ]
    refine wpAnyH_take (i := 3) (oi := { dst := some 31, op := Op.fieldAddr 158 (Operand.tmp 30) 2, type := 0, pos := "gather.go:33", after := #[{ on := 2, ground := Ground.data }], guard := none }) (v := ?_) rfl (by kernel_rfl) (by kernel_rfl) (by kernel_rfl) (fun _ _ _ h => h) (Or.inl ⟨by rfl, ?hy⟩) hHeld ?_
    case hy => (intro w hSw; (try dsimp only at hSw); obtain ⟨_, _⟩ := hSw; go_simp; all_goals (with_reducible rfl))
    try simp only [Act.put, List.setIfInBounds_toArray, List.set_cons_zero, List.set_cons_succ]
    refine wpAnyH_take (i := 5) (oi := { dst := some 33, op := Op.fieldAddr 68 (Operand.tmp 5) 0, type := 0, pos := "gather.go:33", after := #[], guard := none }) (v := ?_) rfl (by kernel_rfl) (by kernel_rfl) (by kernel_rfl) (fun _ _ _ h => h) (Or.inl ⟨by rfl, ?hy⟩) hHeld ?_
    case hy => (intro w hSw; (try dsimp only at hSw); obtain ⟨_, _⟩ := hSw; go_simp; all_goals (with_reducible rfl))
    try simp only [Act.put, List.setIfInBounds_toArray, List.set_cons_zero, List.set_cons_succ]
    refine wpAnyH_take (i := 6) (oi := { dst := some 34, op := Op.load 3 (Operand.tmp 33), type := 3, pos := "gather.go:33", after := #[{ on := 5, ground := Ground.data }], guard := none }) (v := ?_) rfl (by kernel_rfl) (by kernel_rfl) (by kernel_rfl) (fun _ _ _ h => h) (Or.inl ⟨by rfl, ?hy⟩) hHeld ?_
    case hy => (intro w hSw; (try dsimp only at hSw); obtain ⟨_, _⟩ := hSw; go_simp; all_goals (with_reducible rfl))
    try simp only [Act.put, List.setIfInBounds_toArray, List.set_cons_zero, List.set_cons_succ]
    refine wpAnyH_take (i := 7) (oi := { dst := some 35, op := Op.fieldAddr 68 (Operand.tmp 5) 1, type := 0, pos := "gather.go:33", after := #[], guard := none }) (v := ?_) rfl (by kernel_rfl) (by kernel_rfl) (by kernel_rfl) (fun _ _ _ h => h) (Or.inl ⟨by rfl, ?hy⟩) hHeld ?_
    case hy => (intro w hSw; (try dsimp only at hSw); obtain ⟨_, _⟩ := hSw; go_simp; all_goals (with_reducible rfl))
    try simp only [Act.put, List.setIfInBounds_toArray, List.set_cons_zero, List.set_cons_succ]
    refine wpAnyH_take (i := 8) (oi := { dst := some 36, op := Op.load 66 (Operand.tmp 35), type := 66, pos := "gather.go:33", after := #[{ on := 7, ground := Ground.data }], guard := none }) (v := ?_) rfl (by kernel_rfl) (by kernel_rfl) (by kernel_rfl) (fun _ _ _ h => h) (Or.inl ⟨by rfl, ?hy⟩) hHeld ?_
    case hy => (intro w hSw; (try dsimp only at hSw); obtain ⟨_, _⟩ := hSw; go_simp; all_goals (with_reducible rfl))
    try simp only [Act.put, List.setIfInBounds_toArray, List.set_cons_zero, List.set_cons_succ]
    refine wpAnyH_ready (rs := [4, 9]) (by kernel_rfl) (by simp) ?_
    refine AllReadyH.cons (o := { dst := some 32, op := Op.load 63 (Operand.tmp 31), type := 63, pos := "gather.go:33", after := #[{ on := 3, ground := Ground.data }], guard := none }) rfl (fun K hK => ?_) (AllReadyH.cons (o := { dst := some 37, op := Op.call { callee := Callee.value (Operand.func 76), args := #[Operand.tmp 36], argTypes := #[66] }, type := 66, pos := "gather.go:33", after := #[{ on := 8, ground := Ground.data }], guard := none }) rfl (fun K hK => ?_) AllReadyH.nil)
    · have c69 : w3.drew.cell? ⟨gb, 69, none⟩ = some (.slice pa q pc) := (HG3.out.below (bel_drewN (Below.refl _ _) 1)).pv HO.out HM3.out
      go_simp
      clear c69
      refine hK.out _ _ (HKP.out _ ((Kept.refl gb w3).drewN 1)) (fun hHeld => ?_)
      clear hK K
      try simp only [Act.put, List.setIfInBounds_toArray, List.set_cons_zero, List.set_cons_succ]
      refine wpAnyH_ready (rs := [9]) (by kernel_rfl) (by simp) ?_
      refine AllReadyH.cons (o := { dst := some 37, op := Op.call { callee := Callee.value (Operand.func 76), args := #[Operand.tmp 36], argTypes := #[66] }, type := 66, pos := "gather.go:33", after := #[{ on := 8, ground := Ground.data }], guard := none }) rfl (fun K hK => ?_) AllReadyH.nil
      go_simp
      refine HCL.out.mono ?_
      rintro e w5 ⟨_, rfl, a5, c5, rfl, hc5, hb5, hn5, hl5, hbl5, ho5⟩
      have hk5 : Kept gb w3 w5 := (Kept.of_below (b := gb) (bel_drewN (Below.refl w3.heap.size w3) 1)).trans (Kept.of_below (b := gb) hbl5)
      have HK5 := hid hk5
      have HBL5 := hid (show Below w3.heap.size w3 w5 from (bel_drewN (Below.refl w3.heap.size w3) 1).trans hbl5)
      have HBB5 := hid hb5
      have HNN5 := hid hn5
      have HLL5 := hid hl5
      have HCC5 := hid hc5
      have HG5 := hid ((HG3.out.below (bel_drewN (Below.refl _ _) 1)).below hbl5)
      clear hc5 hb5 hn5 hl5 hbl5 ho5 hk5
      go_wp2_with fail
      refine hK.out _ _ (HKP.out _ HK5.out) (fun hHeld => ?_)
      clear hK K
      try simp only [Act.put, List.setIfInBounds_toArray, List.set_cons_zero, List.set_cons_succ]
      refine wpAnyH_take (i := 10) (oi := { dst := some 38, op := Op.build 68 #[(0, Operand.tmp 34), (1, Operand.tmp 37)], type := 68, pos := "gather.go:33", after := #[{ on := 6, ground := Ground.data }, { on := 9, ground := Ground.data }], guard := none }) (v := ?_) rfl (by kernel_rfl) (by kernel_rfl) (by kernel_rfl) (fun _ _ _ h => h) (Or.inl ⟨by rfl, ?hy⟩) hHeld ?_
      case hy => (intro w hSw; (try dsimp only at hSw); obtain ⟨_, _⟩ := hSw; go_simp; all_goals (with_reducible rfl))
      try simp only [Act.put, List.setIfInBounds_toArray, List.set_cons_zero, List.set_cons_succ]
      refine wpAnyH_ready (rs := [11]) (by kernel_rfl) (by simp) ?_
      refine AllReadyH.cons (o := { dst := some 39, op := Op.buildSlice 63 1 #[(0, Operand.tmp 38)], type := 63, pos := "gather.go:33", after := #[{ on := 10, ground := Ground.data }], guard := none }) rfl (fun K hK => ?_) AllReadyH.nil
      go_simp
      refine hK.out _ _ (HKP.out _ (HK5.out.alloc _)) (fun hHeld => ?_)
      clear hK K
      try simp only [Act.put, List.setIfInBounds_toArray, List.set_cons_zero, List.set_cons_succ]
      refine wpAnyH_ready (rs := [12]) (by kernel_rfl) (by simp) ?_
      refine AllReadyH.cons (o := { dst := some 40, op := Op.call { callee := Callee.builtin Builtin.append, args := #[Operand.tmp 32, Operand.tmp 39], argTypes := #[63, 63] }, type := 63, pos := "gather.go:33", after := #[{ on := 4, ground := Ground.data }, { on := 11, ground := Ground.data }, { on := 9, ground := Ground.chain }], guard := none }) rfl (fun K hK => ?_) AllReadyH.nil
      refine Go.step_append_lies _ rfl (.tmp 32) (.tmp 39) _ rfl B 68 i0 (.agg #[.int .i64 0, .slice none 0 0]) 2 32 Tryz.underlying63 hi0 hz0 hz1 hz2 rfl (by decide) (.slice pa q pc) q (pcells ps) rfl (owns_belowP (owns_belowP HOW3.out HBL5.out) ((Below.refl _ _).alloc (Nat.le_refl _) _)) ⟨w5.heap.size, 0, none⟩ 1 1 [.int .i64 x, .slice a5 qn c5] rfl rfl (cells_newP _ [.int .i64 x, .slice a5 qn c5] _) (by intro u hu; simp at hu; rcases hu with rfl | rfl <;> rfl) (by omega) (by unfold maxLen; omega) (by omega) (by simp; have h1 := HBL5.out.size; have h2 := HK.out.size; omega) _ rfl ?_
      intro g6 cap6 w6 hown6 hg6 hq6 hlt6
      have hgK : ∀ j, j < w5.heap.size → (Value.slice pa q pc).ownBlock ≠ some j → w6.heap[j]? = w5.heap[j]? := fun j hj hne => (hg6.block j (by simp; omega) (fun e => hne e.symm)).trans (heap_alloc_old _ _ hj)
      have hgo : (Value.slice pa q pc).ownBlock ≠ some gb := fun e => by
        obtain ⟨cc, hcc⟩ := owns_typed HOW3.out gb e
        exact ne_type hcc HG3.out (by decide) rfl
      have hg5 : gb < w5.heap.size := lt_of_heap HG5.out
      have HG6 := hid (show GthAt w6 gb obj M3 (.slice pa q pc) from (hgK gb hg5 hgo).trans HG5.out)
      have HKR6 := hid (show KeptR gb (.slice pa q pc) w w6 from ⟨hg6.os.trans (HK5.out.alloc (.cells #[.int .i64 x, .slice a5 qn c5] 68)).os |>.trans HK.out.os, hg6.tape.trans (HK5.out.alloc (.cells #[.int .i64 x, .slice a5 qn c5] 68)).tape |>.trans HK.out.tape, hg6.output.trans (HK5.out.alloc (.cells #[.int .i64 x, .slice a5 qn c5] 68)).output |>.trans HK.out.output, Nat.le_trans HK.out.size (Nat.le_trans (HK5.out.alloc (.cells #[.int .i64 x, .slice a5 qn c5] 68)).size hg6.size), fun j hj h1 h2 => (hgK j (Nat.lt_of_lt_of_le hj (Nat.le_trans HK.out.size HK5.out.size)) h2).trans ((HK5.out.block j (Nat.lt_of_lt_of_le hj HK.out.size) h1).trans (HK.out.block j hj h1))⟩)
      have HE6 := hid (HKR.out w6 (fun j hj h1 h2 => (hgK j (Nat.lt_of_lt_of_le hj HK5.out.size) h2).trans (HK5.out.block j hj h1)))
      have HOWN6 := hid hown6
      have HOS6 := hid (show w6.os = w5.os ∧ w6.tape = w5.tape ∧ w6.output = w5.output ∧ w5.heap.size ≤ w6.heap.size from ⟨hg6.os, hg6.tape, hg6.output, Nat.le_trans (by simp) hg6.size⟩)
      have HLT6 := hid hlt6
      have HKB := hid hgK
      have HGO := hid hgo
      have HSR := hid (show SameRow w (.slice pa q pc) (.slice (some ⟨g6, 0, none⟩) (q + 1) cap6) from fun j hj => by
        have e : g6 = j := by simpa [Value.ownBlock] using hj
        subst e
        refine hq6.imp id (fun h => ?_)
        rw [h]
        exact Nat.le_trans HK.out.size (Nat.le_trans HK5.out.size (by simp)))
      have HS5 := hid (show (Value.slice pa q pc).ownBlock = some g6 ∨ w5.heap.size ≤ g6 from hq6.imp id (fun h => by rw [h]; simp))
      clear hown6 hg6 hq6 hlt6 hgK hgo hg5
      refine hK.out _ _ HE6.out (fun hHeld => ?_)
      clear hK K
      try simp only [Act.put, List.setIfInBounds_toArray, List.set_cons_zero, List.set_cons_succ]
      refine wpAnyH_take (i := 13) (oi := { dst := some 41, op := Op.nilCheck (Operand.tmp 28), type := 0, pos := "gather.go:33", after := #[{ on := 0, ground := Ground.data }, { on := 0, ground := Ground.phase }, { on := 1, ground := Ground.phase }, { on := 2, ground := Ground.phase }, { on := 3, ground := Ground.phase }, { on := 4, ground := Ground.phase }, { on := 5, ground := Ground.phase }, { on := 6, ground := Ground.phase }, { on := 7, ground := Ground.phase }, { on := 8, ground := Ground.phase }, { on := 9, ground := Ground.phase }, { on := 10, ground := Ground.phase }, { on := 11, ground := Ground.phase }, { on := 12, ground := Ground.phase }], guard := none }) (v := ?_) rfl (by kernel_rfl) (by kernel_rfl) (by kernel_rfl) (fun _ _ _ h => h) (Or.inl ⟨by rfl, ?hy⟩) hHeld ?_
      case hy => (intro w hSw; (try dsimp only at hSw); obtain ⟨_, _⟩ := hSw; go_simp; all_goals (with_reducible rfl))
      try simp only [Act.put, List.setIfInBounds_toArray, List.set_cons_zero, List.set_cons_succ]
      refine wpAnyH_take (i := 14) (oi := { dst := some 42, op := Op.fieldAddr 158 (Operand.tmp 41) 2, type := 0, pos := "gather.go:33", after := #[{ on := 13, ground := Ground.data }, { on := 0, ground := Ground.phase }, { on := 1, ground := Ground.phase }, { on := 2, ground := Ground.phase }, { on := 3, ground := Ground.phase }, { on := 4, ground := Ground.phase }, { on := 5, ground := Ground.phase }, { on := 6, ground := Ground.phase }, { on := 7, ground := Ground.phase }, { on := 8, ground := Ground.phase }, { on := 9, ground := Ground.phase }, { on := 10, ground := Ground.phase }, { on := 11, ground := Ground.phase }, { on := 12, ground := Ground.phase }], guard := none }) (v := ?_) rfl (by kernel_rfl) (by kernel_rfl) (by kernel_rfl) (fun _ _ _ h => h) (Or.inl ⟨by rfl, ?hy⟩) hHeld ?_
      case hy => (intro w hSw; (try dsimp only at hSw); obtain ⟨_, _⟩ := hSw; go_simp; all_goals (with_reducible rfl))
      try simp only [Act.put, List.setIfInBounds_toArray, List.set_cons_zero, List.set_cons_succ]
      refine wpAnyH_ready (rs := [15]) (by kernel_rfl) (by simp) ?_
      refine AllReadyH.cons (o := { dst := none, op := Op.store 63 (Operand.tmp 42) (Operand.tmp 40), type := 0, pos := "gather.go:33", after := #[{ on := 14, ground := Ground.data }, { on := 12, ground := Ground.data }, { on := 12, ground := Ground.chain }, { on := 0, ground := Ground.phase }, { on := 1, ground := Ground.phase }, { on := 2, ground := Ground.phase }, { on := 3, ground := Ground.phase }, { on := 4, ground := Ground.phase }, { on := 5, ground := Ground.phase }, { on := 6, ground := Ground.phase }, { on := 7, ground := Ground.phase }, { on := 8, ground := Ground.phase }, { on := 9, ground := Ground.phase }, { on := 10, ground := Ground.phase }, { on := 11, ground := Ground.phase }, { on := 12, ground := Ground.phase }], guard := none }) rfl (fun K hK => ?_) AllReadyH.nil
      have c69 : w6.cell? ⟨gb, 69, none⟩ = some (.slice pa q pc) := HG6.out.pv HO.out HM3.out
      have f69 : w6.frozen? ⟨gb, 69, none⟩ = false := free_of_heap HG6.out 69
      go_simp
      refine hK.out _ _ ⟨(World.cell?_setCell_far w6 ⟨gb, 69, none⟩ ⟨w.heap.size + 1, 0, none⟩ _ (fun e => hpg e.symm)).trans HE6.out.1, (World.cell?_setCell_far w6 ⟨gb, 69, none⟩ ⟨w.heap.size + 1, 1, none⟩ _ (fun e => hpg e.symm)).trans HE6.out.2⟩ (fun hHeld => ?_)
      clear hK K c69 f69
      try simp only [Act.put]
      refine wpAnyH_done (by kernel_rfl) ?_ _
      go_wp2
      go_ret
      have HF := hid (show KeptR gb (.slice pa q pc) w5 (w6.setCell ⟨gb, 69, none⟩ (.slice (some ⟨g6, 0, none⟩) (q + 1) cap6)) from (KeptR.setCell ⟨HOS6.out.1, HOS6.out.2.1, HOS6.out.2.2.1, HOS6.out.2.2.2, fun j hj _ h2 => HKB.out j hj h2⟩ 69 _))
      have hown := HOWN.out
      have hofr : ∀ ad : Addr, w.heap.size ≤ ad.block → ad.block ≠ gb ∧ (Value.slice pa q pc).ownBlock ≠ some ad.block := fun ad h => ⟨by have := HGB.out; omega, fun e => by have := owns_ltW hown _ e; omega⟩
      have hfar : ∀ ad : Addr, w.heap.size ≤ ad.block → ad.block < w5.heap.size → ad.block ≠ g6 := fun ad h1 h2 h3 => by
        rcases HS5.out with h4 | h4
        · have := owns_ltW hown _ h4; omega
        · omega
      refine ⟨rfl, M3, g6, cap6, a5, c5, HM3.out, gth_set HG6.out HO.out HM3.out _, fun h0 => ?_, HQN.out, ?_, ?_, HCC5.out, HNN5.out, fun ad e => ?_, HSR.out, HKR6.out.setCell 69 _⟩
      · obtain ⟨a9, c9, e9, hd9, hl9⟩ := HQZ.out h0
        exact ⟨a9, c9, e9, (hd9.below HBL5.out).keptR HF.out (fun ad e => hofr ad (hl9 ad e)), fun ad e => ⟨hl9 ad e, fun hne => hfar ad (hl9 ad e) ((hd9.below HBL5.out).blk hne ad e)⟩⟩
      · refine owns_keep (w := w6) ?_ (fun g hg => heap_setCell_other w6 ⟨gb, 69, none⟩ g _ (by
          obtain ⟨cc, hcc⟩ := owns_typed HOWN6.out g hg
          show g ≠ gb
          exact ne_type hcc HG6.out (by decide)))
        rw [show pcells (ps ++ [(x, a5, qn, c5)]) = pcells ps ++ [.int .i64 x, .slice a5 qn c5] from by simp [pcells]]
        exact HOWN6.out
      · exact HBB5.out.keptR HF.out (fun ad e _ => hofr ad (by have h1 := (HLL5.out ad e).1; have h2 := HK.out.size; have h3 : w3.drew.heap.size = w3.heap.size := rfl; omega))
      · have h1 := (HLL5.out ad e).1
        have h2 := HK.out.size
        have h3 : w3.drew.heap.size = w3.heap.size := rfl
        have h4 : w.heap.size ≤ ad.block := by omega
        exact ⟨h4, fun hne => hfar ad h4 (HBB5.out.blk hne ad e)⟩
    · go_simp
      refine HCL.out.mono ?_
      rintro e w5 ⟨_, rfl, a5, c5, rfl, hc5, hb5, hn5, hl5, hbl5, ho5⟩
      have hk5 : Kept gb w3 w5 := (Kept.of_below (b := gb) (bel_drewN (Below.refl w3.heap.size w3) 1)).trans (Kept.of_below (b := gb) hbl5)
      have HK5 := hid hk5
      have HBL5 := hid (show Below w3.heap.size w3 w5 from (bel_drewN (Below.refl w3.heap.size w3) 1).trans hbl5)
      have HBB5 := hid hb5
      have HNN5 := hid hn5
      have HLL5 := hid hl5
      have HCC5 := hid hc5
      have HG5 := hid ((HG3.out.below (bel_drewN (Below.refl _ _) 1)).below hbl5)
      clear hc5 hb5 hn5 hl5 hbl5 ho5 hk5
      go_wp2_with fail
      refine hK.out _ _ (HKP.out _ HK5.out) (fun hHeld => ?_)
      clear hK K
      try simp only [Act.put, List.setIfInBounds_toArray, List.set_cons_zero, List.set_cons_succ]
      refine wpAnyH_take (i := 10) (oi := { dst := some 38, op := Op.build 68 #[(0, Operand.tmp 34), (1, Operand.tmp 37)], type := 68, pos := "gather.go:33", after := #[{ on := 6, ground := Ground.data }, { on := 9, ground := Ground.data }], guard := none }) (v := ?_) rfl (by kernel_rfl) (by kernel_rfl) (by kernel_rfl) (fun _ _ _ h => h) (Or.inl ⟨by rfl, ?hy⟩) hHeld ?_
      case hy => (intro w hSw; (try dsimp only at hSw); obtain ⟨_, _⟩ := hSw; go_simp; all_goals (with_reducible rfl))
      try simp only [Act.put, List.setIfInBounds_toArray, List.set_cons_zero, List.set_cons_succ]
      refine wpAnyH_ready (rs := [4, 11]) (by kernel_rfl) (by simp) ?_
      refine AllReadyH.cons (o := { dst := some 32, op := Op.load 63 (Operand.tmp 31), type := 63, pos := "gather.go:33", after := #[{ on := 3, ground := Ground.data }], guard := none }) rfl (fun K hK => ?_) (AllReadyH.cons (o := { dst := some 39, op := Op.buildSlice 63 1 #[(0, Operand.tmp 38)], type := 63, pos := "gather.go:33", after := #[{ on := 10, ground := Ground.data }], guard := none }) rfl (fun K hK => ?_) AllReadyH.nil)
      · have c69 : w5.cell? ⟨gb, 69, none⟩ = some (.slice pa q pc) := HG5.out.pv HO.out HM3.out
        go_simp
        clear c69
        refine hK.out _ _ (HKP.out _ (HK5.out)) (fun hHeld => ?_)
        clear hK K
        try simp only [Act.put, List.setIfInBounds_toArray, List.set_cons_zero, List.set_cons_succ]
        refine wpAnyH_ready (rs := [11]) (by kernel_rfl) (by simp) ?_
        refine AllReadyH.cons (o := { dst := some 39, op := Op.buildSlice 63 1 #[(0, Operand.tmp 38)], type := 63, pos := "gather.go:33", after := #[{ on := 10, ground := Ground.data }], guard := none }) rfl (fun K hK => ?_) AllReadyH.nil
        go_simp
        refine hK.out _ _ (HKP.out _ (HK5.out.alloc _)) (fun hHeld => ?_)
        clear hK K
        try simp only [Act.put, List.setIfInBounds_toArray, List.set_cons_zero, List.set_cons_succ]
        refine wpAnyH_ready (rs := [12]) (by kernel_rfl) (by simp) ?_
        refine AllReadyH.cons (o := { dst := some 40, op := Op.call { callee := Callee.builtin Builtin.append, args := #[Operand.tmp 32, Operand.tmp 39], argTypes := #[63, 63] }, type := 63, pos := "gather.go:33", after := #[{ on := 4, ground := Ground.data }, { on := 11, ground := Ground.data }, { on := 9, ground := Ground.chain }], guard := none }) rfl (fun K hK => ?_) AllReadyH.nil
        refine Go.step_append_lies _ rfl (.tmp 32) (.tmp 39) _ rfl B 68 i0 (.agg #[.int .i64 0, .slice none 0 0]) 2 32 Tryz.underlying63 hi0 hz0 hz1 hz2 rfl (by decide) (.slice pa q pc) q (pcells ps) rfl (owns_belowP (owns_belowP HOW3.out HBL5.out) ((Below.refl _ _).alloc (Nat.le_refl _) _)) ⟨w5.heap.size, 0, none⟩ 1 1 [.int .i64 x, .slice a5 qn c5] rfl rfl (cells_newP _ [.int .i64 x, .slice a5 qn c5] _) (by intro u hu; simp at hu; rcases hu with rfl | rfl <;> rfl) (by omega) (by unfold maxLen; omega) (by omega) (by simp; have h1 := HBL5.out.size; have h2 := HK.out.size; omega) _ rfl ?_
        intro g6 cap6 w6 hown6 hg6 hq6 hlt6
        have hgK : ∀ j, j < w5.heap.size → (Value.slice pa q pc).ownBlock ≠ some j → w6.heap[j]? = w5.heap[j]? := fun j hj hne => (hg6.block j (by simp; omega) (fun e => hne e.symm)).trans (heap_alloc_old _ _ hj)
        have hgo : (Value.slice pa q pc).ownBlock ≠ some gb := fun e => by
          obtain ⟨cc, hcc⟩ := owns_typed HOW3.out gb e
          exact ne_type hcc HG3.out (by decide) rfl
        have hg5 : gb < w5.heap.size := lt_of_heap HG5.out
        have HG6 := hid (show GthAt w6 gb obj M3 (.slice pa q pc) from (hgK gb hg5 hgo).trans HG5.out)
        have HKR6 := hid (show KeptR gb (.slice pa q pc) w w6 from ⟨hg6.os.trans (HK5.out.alloc (.cells #[.int .i64 x, .slice a5 qn c5] 68)).os |>.trans HK.out.os, hg6.tape.trans (HK5.out.alloc (.cells #[.int .i64 x, .slice a5 qn c5] 68)).tape |>.trans HK.out.tape, hg6.output.trans (HK5.out.alloc (.cells #[.int .i64 x, .slice a5 qn c5] 68)).output |>.trans HK.out.output, Nat.le_trans HK.out.size (Nat.le_trans (HK5.out.alloc (.cells #[.int .i64 x, .slice a5 qn c5] 68)).size hg6.size), fun j hj h1 h2 => (hgK j (Nat.lt_of_lt_of_le hj (Nat.le_trans HK.out.size HK5.out.size)) h2).trans ((HK5.out.block j (Nat.lt_of_lt_of_le hj HK.out.size) h1).trans (HK.out.block j hj h1))⟩)
        have HE6 := hid (HKR.out w6 (fun j hj h1 h2 => (hgK j (Nat.lt_of_lt_of_le hj HK5.out.size) h2).trans (HK5.out.block j hj h1)))
        have HOWN6 := hid hown6
        have HOS6 := hid (show w6.os = w5.os ∧ w6.tape = w5.tape ∧ w6.output = w5.output ∧ w5.heap.size ≤ w6.heap.size from ⟨hg6.os, hg6.tape, hg6.output, Nat.le_trans (by simp) hg6.size⟩)
        have HLT6 := hid hlt6
        have HKB := hid hgK
        have HGO := hid hgo
        have HSR := hid (show SameRow w (.slice pa q pc) (.slice (some ⟨g6, 0, none⟩) (q + 1) cap6) from fun j hj => by
          have e : g6 = j := by simpa [Value.ownBlock] using hj
          subst e
          refine hq6.imp id (fun h => ?_)
          rw [h]
          exact Nat.le_trans HK.out.size (Nat.le_trans HK5.out.size (by simp)))
        have HS5 := hid (show (Value.slice pa q pc).ownBlock = some g6 ∨ w5.heap.size ≤ g6 from hq6.imp id (fun h => by rw [h]; simp))
        clear hown6 hg6 hq6 hlt6 hgK hgo hg5
        refine hK.out _ _ HE6.out (fun hHeld => ?_)
        clear hK K
        try simp only [Act.put, List.setIfInBounds_toArray, List.set_cons_zero, List.set_cons_succ]
        refine wpAnyH_take (i := 13) (oi := { dst := some 41, op := Op.nilCheck (Operand.tmp 28), type := 0, pos := "gather.go:33", after := #[{ on := 0, ground := Ground.data }, { on := 0, ground := Ground.phase }, { on := 1, ground := Ground.phase }, { on := 2, ground := Ground.phase }, { on := 3, ground := Ground.phase }, { on := 4, ground := Ground.phase }, { on := 5, ground := Ground.phase }, { on := 6, ground := Ground.phase }, { on := 7, ground := Ground.phase }, { on := 8, ground := Ground.phase }, { on := 9, ground := Ground.phase }, { on := 10, ground := Ground.phase }, { on := 11, ground := Ground.phase }, { on := 12, ground := Ground.phase }], guard := none }) (v := ?_) rfl (by kernel_rfl) (by kernel_rfl) (by kernel_rfl) (fun _ _ _ h => h) (Or.inl ⟨by rfl, ?hy⟩) hHeld ?_
        case hy => (intro w hSw; (try dsimp only at hSw); obtain ⟨_, _⟩ := hSw; go_simp; all_goals (with_reducible rfl))
        try simp only [Act.put, List.setIfInBounds_toArray, List.set_cons_zero, List.set_cons_succ]
        refine wpAnyH_take (i := 14) (oi := { dst := some 42, op := Op.fieldAddr 158 (Operand.tmp 41) 2, type := 0, pos := "gather.go:33", after := #[{ on := 13, ground := Ground.data }, { on := 0, ground := Ground.phase }, { on := 1, ground := Ground.phase }, { on := 2, ground := Ground.phase }, { on := 3, ground := Ground.phase }, { on := 4, ground := Ground.phase }, { on := 5, ground := Ground.phase }, { on := 6, ground := Ground.phase }, { on := 7, ground := Ground.phase }, { on := 8, ground := Ground.phase }, { on := 9, ground := Ground.phase }, { on := 10, ground := Ground.phase }, { on := 11, ground := Ground.phase }, { on := 12, ground := Ground.phase }], guard := none }) (v := ?_) rfl (by kernel_rfl) (by kernel_rfl) (by kernel_rfl) (fun _ _ _ h => h) (Or.inl ⟨by rfl, ?hy⟩) hHeld ?_
        case hy => (intro w hSw; (try dsimp only at hSw); obtain ⟨_, _⟩ := hSw; go_simp; all_goals (with_reducible rfl))
        try simp only [Act.put, List.setIfInBounds_toArray, List.set_cons_zero, List.set_cons_succ]
        refine wpAnyH_ready (rs := [15]) (by kernel_rfl) (by simp) ?_
        refine AllReadyH.cons (o := { dst := none, op := Op.store 63 (Operand.tmp 42) (Operand.tmp 40), type := 0, pos := "gather.go:33", after := #[{ on := 14, ground := Ground.data }, { on := 12, ground := Ground.data }, { on := 12, ground := Ground.chain }, { on := 0, ground := Ground.phase }, { on := 1, ground := Ground.phase }, { on := 2, ground := Ground.phase }, { on := 3, ground := Ground.phase }, { on := 4, ground := Ground.phase }, { on := 5, ground := Ground.phase }, { on := 6, ground := Ground.phase }, { on := 7, ground := Ground.phase }, { on := 8, ground := Ground.phase }, { on := 9, ground := Ground.phase }, { on := 10, ground := Ground.phase }, { on := 11, ground := Ground.phase }, { on := 12, ground := Ground.phase }], guard := none }) rfl (fun K hK => ?_) AllReadyH.nil
        have c69 : w6.cell? ⟨gb, 69, none⟩ = some (.slice pa q pc) := HG6.out.pv HO.out HM3.out
        have f69 : w6.frozen? ⟨gb, 69, none⟩ = false := free_of_heap HG6.out 69
        go_simp
        refine hK.out _ _ ⟨(World.cell?_setCell_far w6 ⟨gb, 69, none⟩ ⟨w.heap.size + 1, 0, none⟩ _ (fun e => hpg e.symm)).trans HE6.out.1, (World.cell?_setCell_far w6 ⟨gb, 69, none⟩ ⟨w.heap.size + 1, 1, none⟩ _ (fun e => hpg e.symm)).trans HE6.out.2⟩ (fun hHeld => ?_)
        clear hK K c69 f69
        try simp only [Act.put]
        refine wpAnyH_done (by kernel_rfl) ?_ _
        go_wp2
        go_ret
        have HF := hid (show KeptR gb (.slice pa q pc) w5 (w6.setCell ⟨gb, 69, none⟩ (.slice (some ⟨g6, 0, none⟩) (q + 1) cap6)) from (KeptR.setCell ⟨HOS6.out.1, HOS6.out.2.1, HOS6.out.2.2.1, HOS6.out.2.2.2, fun j hj _ h2 => HKB.out j hj h2⟩ 69 _))
        have hown := HOWN.out
        have hofr : ∀ ad : Addr, w.heap.size ≤ ad.block → ad.block ≠ gb ∧ (Value.slice pa q pc).ownBlock ≠ some ad.block := fun ad h => ⟨by have := HGB.out; omega, fun e => by have := owns_ltW hown _ e; omega⟩
        have hfar : ∀ ad : Addr, w.heap.size ≤ ad.block → ad.block < w5.heap.size → ad.block ≠ g6 := fun ad h1 h2 h3 => by
          rcases HS5.out with h4 | h4
          · have := owns_ltW hown _ h4; omega
          · omega
        refine ⟨rfl, M3, g6, cap6, a5, c5, HM3.out, gth_set HG6.out HO.out HM3.out _, fun h0 => ?_, HQN.out, ?_, ?_, HCC5.out, HNN5.out, fun ad e => ?_, HSR.out, HKR6.out.setCell 69 _⟩
        · obtain ⟨a9, c9, e9, hd9, hl9⟩ := HQZ.out h0
          exact ⟨a9, c9, e9, (hd9.below HBL5.out).keptR HF.out (fun ad e => hofr ad (hl9 ad e)), fun ad e => ⟨hl9 ad e, fun hne => hfar ad (hl9 ad e) ((hd9.below HBL5.out).blk hne ad e)⟩⟩
        · refine owns_keep (w := w6) ?_ (fun g hg => heap_setCell_other w6 ⟨gb, 69, none⟩ g _ (by
            obtain ⟨cc, hcc⟩ := owns_typed HOWN6.out g hg
            show g ≠ gb
            exact ne_type hcc HG6.out (by decide)))
          rw [show pcells (ps ++ [(x, a5, qn, c5)]) = pcells ps ++ [.int .i64 x, .slice a5 qn c5] from by simp [pcells]]
          exact HOWN6.out
        · exact HBB5.out.keptR HF.out (fun ad e _ => hofr ad (by have h1 := (HLL5.out ad e).1; have h2 := HK.out.size; have h3 : w3.drew.heap.size = w3.heap.size := rfl; omega))
        · have h1 := (HLL5.out ad e).1
          have h2 := HK.out.size
          have h3 : w3.drew.heap.size = w3.heap.size := rfl
          have h4 : w.heap.size ≤ ad.block := by omega
          exact ⟨h4, fun hne => hfar ad h4 (HBB5.out.blk hne ad e)⟩
      · go_simp
        refine hK.out _ _ (HKP.out _ (HK5.out.alloc _)) (fun hHeld => ?_)
        clear hK K
        try simp only [Act.put, List.setIfInBounds_toArray, List.set_cons_zero, List.set_cons_succ]
        refine wpAnyH_ready (rs := [4]) (by kernel_rfl) (by simp) ?_
        refine AllReadyH.cons (o := { dst := some 32, op := Op.load 63 (Operand.tmp 31), type := 63, pos := "gather.go:33", after := #[{ on := 3, ground := Ground.data }], guard := none }) rfl (fun K hK => ?_) AllReadyH.nil
        have c69 : (w5.alloc (.cells #[.int .i64 x, .slice a5 qn c5] 68)).cell? ⟨gb, 69, none⟩ = some (.slice pa q pc) := (HG5.out.below ((Below.refl _ _).alloc (Nat.le_refl _) _)).pv HO.out HM3.out
        go_simp
        clear c69
        refine hK.out _ _ (HKP.out _ (HK5.out.alloc _)) (fun hHeld => ?_)
        clear hK K
        try simp only [Act.put, List.setIfInBounds_toArray, List.set_cons_zero, List.set_cons_succ]
        refine wpAnyH_ready (rs := [12]) (by kernel_rfl) (by simp) ?_
        refine AllReadyH.cons (o := { dst := some 40, op := Op.call { callee := Callee.builtin Builtin.append, args := #[Operand.tmp 32, Operand.tmp 39], argTypes := #[63, 63] }, type := 63, pos := "gather.go:33", after := #[{ on := 4, ground := Ground.data }, { on := 11, ground := Ground.data }, { on := 9, ground := Ground.chain }], guard := none }) rfl (fun K hK => ?_) AllReadyH.nil
        refine Go.step_append_lies _ rfl (.tmp 32) (.tmp 39) _ rfl B 68 i0 (.agg #[.int .i64 0, .slice none 0 0]) 2 32 Tryz.underlying63 hi0 hz0 hz1 hz2 rfl (by decide) (.slice pa q pc) q (pcells ps) rfl (owns_belowP (owns_belowP HOW3.out HBL5.out) ((Below.refl _ _).alloc (Nat.le_refl _) _)) ⟨w5.heap.size, 0, none⟩ 1 1 [.int .i64 x, .slice a5 qn c5] rfl rfl (cells_newP _ [.int .i64 x, .slice a5 qn c5] _) (by intro u hu; simp at hu; rcases hu with rfl | rfl <;> rfl) (by omega) (by unfold maxLen; omega) (by omega) (by simp; have h1 := HBL5.out.size; have h2 := HK.out.size; omega) _ rfl ?_
        intro g6 cap6 w6 hown6 hg6 hq6 hlt6
        have hgK : ∀ j, j < w5.heap.size → (Value.slice pa q pc).ownBlock ≠ some j → w6.heap[j]? = w5.heap[j]? := fun j hj hne => (hg6.block j (by simp; omega) (fun e => hne e.symm)).trans (heap_alloc_old _ _ hj)
        have hgo : (Value.slice pa q pc).ownBlock ≠ some gb := fun e => by
          obtain ⟨cc, hcc⟩ := owns_typed HOW3.out gb e
          exact ne_type hcc HG3.out (by decide) rfl
        have hg5 : gb < w5.heap.size := lt_of_heap HG5.out
        have HG6 := hid (show GthAt w6 gb obj M3 (.slice pa q pc) from (hgK gb hg5 hgo).trans HG5.out)
        have HKR6 := hid (show KeptR gb (.slice pa q pc) w w6 from ⟨hg6.os.trans (HK5.out.alloc (.cells #[.int .i64 x, .slice a5 qn c5] 68)).os |>.trans HK.out.os, hg6.tape.trans (HK5.out.alloc (.cells #[.int .i64 x, .slice a5 qn c5] 68)).tape |>.trans HK.out.tape, hg6.output.trans (HK5.out.alloc (.cells #[.int .i64 x, .slice a5 qn c5] 68)).output |>.trans HK.out.output, Nat.le_trans HK.out.size (Nat.le_trans (HK5.out.alloc (.cells #[.int .i64 x, .slice a5 qn c5] 68)).size hg6.size), fun j hj h1 h2 => (hgK j (Nat.lt_of_lt_of_le hj (Nat.le_trans HK.out.size HK5.out.size)) h2).trans ((HK5.out.block j (Nat.lt_of_lt_of_le hj HK.out.size) h1).trans (HK.out.block j hj h1))⟩)
        have HE6 := hid (HKR.out w6 (fun j hj h1 h2 => (hgK j (Nat.lt_of_lt_of_le hj HK5.out.size) h2).trans (HK5.out.block j hj h1)))
        have HOWN6 := hid hown6
        have HOS6 := hid (show w6.os = w5.os ∧ w6.tape = w5.tape ∧ w6.output = w5.output ∧ w5.heap.size ≤ w6.heap.size from ⟨hg6.os, hg6.tape, hg6.output, Nat.le_trans (by simp) hg6.size⟩)
        have HLT6 := hid hlt6
        have HKB := hid hgK
        have HGO := hid hgo
        have HSR := hid (show SameRow w (.slice pa q pc) (.slice (some ⟨g6, 0, none⟩) (q + 1) cap6) from fun j hj => by
          have e : g6 = j := by simpa [Value.ownBlock] using hj
          subst e
          refine hq6.imp id (fun h => ?_)
          rw [h]
          exact Nat.le_trans HK.out.size (Nat.le_trans HK5.out.size (by simp)))
        have HS5 := hid (show (Value.slice pa q pc).ownBlock = some g6 ∨ w5.heap.size ≤ g6 from hq6.imp id (fun h => by rw [h]; simp))
        clear hown6 hg6 hq6 hlt6 hgK hgo hg5
        refine hK.out _ _ HE6.out (fun hHeld => ?_)
        clear hK K
        try simp only [Act.put, List.setIfInBounds_toArray, List.set_cons_zero, List.set_cons_succ]
        refine wpAnyH_take (i := 13) (oi := { dst := some 41, op := Op.nilCheck (Operand.tmp 28), type := 0, pos := "gather.go:33", after := #[{ on := 0, ground := Ground.data }, { on := 0, ground := Ground.phase }, { on := 1, ground := Ground.phase }, { on := 2, ground := Ground.phase }, { on := 3, ground := Ground.phase }, { on := 4, ground := Ground.phase }, { on := 5, ground := Ground.phase }, { on := 6, ground := Ground.phase }, { on := 7, ground := Ground.phase }, { on := 8, ground := Ground.phase }, { on := 9, ground := Ground.phase }, { on := 10, ground := Ground.phase }, { on := 11, ground := Ground.phase }, { on := 12, ground := Ground.phase }], guard := none }) (v := ?_) rfl (by kernel_rfl) (by kernel_rfl) (by kernel_rfl) (fun _ _ _ h => h) (Or.inl ⟨by rfl, ?hy⟩) hHeld ?_
        case hy => (intro w hSw; (try dsimp only at hSw); obtain ⟨_, _⟩ := hSw; go_simp; all_goals (with_reducible rfl))
        try simp only [Act.put, List.setIfInBounds_toArray, List.set_cons_zero, List.set_cons_succ]
        refine wpAnyH_take (i := 14) (oi := { dst := some 42, op := Op.fieldAddr 158 (Operand.tmp 41) 2, type := 0, pos := "gather.go:33", after := #[{ on := 13, ground := Ground.data }, { on := 0, ground := Ground.phase }, { on := 1, ground := Ground.phase }, { on := 2, ground := Ground.phase }, { on := 3, ground := Ground.phase }, { on := 4, ground := Ground.phase }, { on := 5, ground := Ground.phase }, { on := 6, ground := Ground.phase }, { on := 7, ground := Ground.phase }, { on := 8, ground := Ground.phase }, { on := 9, ground := Ground.phase }, { on := 10, ground := Ground.phase }, { on := 11, ground := Ground.phase }, { on := 12, ground := Ground.phase }], guard := none }) (v := ?_) rfl (by kernel_rfl) (by kernel_rfl) (by kernel_rfl) (fun _ _ _ h => h) (Or.inl ⟨by rfl, ?hy⟩) hHeld ?_
        case hy => (intro w hSw; (try dsimp only at hSw); obtain ⟨_, _⟩ := hSw; go_simp; all_goals (with_reducible rfl))
        try simp only [Act.put, List.setIfInBounds_toArray, List.set_cons_zero, List.set_cons_succ]
        refine wpAnyH_ready (rs := [15]) (by kernel_rfl) (by simp) ?_
        refine AllReadyH.cons (o := { dst := none, op := Op.store 63 (Operand.tmp 42) (Operand.tmp 40), type := 0, pos := "gather.go:33", after := #[{ on := 14, ground := Ground.data }, { on := 12, ground := Ground.data }, { on := 12, ground := Ground.chain }, { on := 0, ground := Ground.phase }, { on := 1, ground := Ground.phase }, { on := 2, ground := Ground.phase }, { on := 3, ground := Ground.phase }, { on := 4, ground := Ground.phase }, { on := 5, ground := Ground.phase }, { on := 6, ground := Ground.phase }, { on := 7, ground := Ground.phase }, { on := 8, ground := Ground.phase }, { on := 9, ground := Ground.phase }, { on := 10, ground := Ground.phase }, { on := 11, ground := Ground.phase }, { on := 12, ground := Ground.phase }], guard := none }) rfl (fun K hK => ?_) AllReadyH.nil
        have c69 : w6.cell? ⟨gb, 69, none⟩ = some (.slice pa q pc) := HG6.out.pv HO.out HM3.out
        have f69 : w6.frozen? ⟨gb, 69, none⟩ = false := free_of_heap HG6.out 69
        go_simp
        refine hK.out _ _ ⟨(World.cell?_setCell_far w6 ⟨gb, 69, none⟩ ⟨w.heap.size + 1, 0, none⟩ _ (fun e => hpg e.symm)).trans HE6.out.1, (World.cell?_setCell_far w6 ⟨gb, 69, none⟩ ⟨w.heap.size + 1, 1, none⟩ _ (fun e => hpg e.symm)).trans HE6.out.2⟩ (fun hHeld => ?_)
        clear hK K c69 f69
        try simp only [Act.put]
        refine wpAnyH_done (by kernel_rfl) ?_ _
        go_wp2
        go_ret
        have HF := hid (show KeptR gb (.slice pa q pc) w5 (w6.setCell ⟨gb, 69, none⟩ (.slice (some ⟨g6, 0, none⟩) (q + 1) cap6)) from (KeptR.setCell ⟨HOS6.out.1, HOS6.out.2.1, HOS6.out.2.2.1, HOS6.out.2.2.2, fun j hj _ h2 => HKB.out j hj h2⟩ 69 _))
        have hown := HOWN.out
        have hofr : ∀ ad : Addr, w.heap.size ≤ ad.block → ad.block ≠ gb ∧ (Value.slice pa q pc).ownBlock ≠ some ad.block := fun ad h => ⟨by have := HGB.out; omega, fun e => by have := owns_ltW hown _ e; omega⟩
        have hfar : ∀ ad : Addr, w.heap.size ≤ ad.block → ad.block < w5.heap.size → ad.block ≠ g6 := fun ad h1 h2 h3 => by
          rcases HS5.out with h4 | h4
          · have := owns_ltW hown _ h4; omega
          · omega
        refine ⟨rfl, M3, g6, cap6, a5, c5, HM3.out, gth_set HG6.out HO.out HM3.out _, fun h0 => ?_, HQN.out, ?_, ?_, HCC5.out, HNN5.out, fun ad e => ?_, HSR.out, HKR6.out.setCell 69 _⟩
        · obtain ⟨a9, c9, e9, hd9, hl9⟩ := HQZ.out h0
          exact ⟨a9, c9, e9, (hd9.below HBL5.out).keptR HF.out (fun ad e => hofr ad (hl9 ad e)), fun ad e => ⟨hl9 ad e, fun hne => hfar ad (hl9 ad e) ((hd9.below HBL5.out).blk hne ad e)⟩⟩
        · refine owns_keep (w := w6) ?_ (fun g hg => heap_setCell_other w6 ⟨gb, 69, none⟩ g _ (by
            obtain ⟨cc, hcc⟩ := owns_typed HOWN6.out g hg
            show g ≠ gb
            exact ne_type hcc HG6.out (by decide)))
          rw [show pcells (ps ++ [(x, a5, qn, c5)]) = pcells ps ++ [.int .i64 x, .slice a5 qn c5] from by simp [pcells]]
          exact HOWN6.out
        · exact HBB5.out.keptR HF.out (fun ad e _ => hofr ad (by have h1 := (HLL5.out ad e).1; have h2 := HK.out.size; have h3 : w3.drew.heap.size = w3.heap.size := rfl; omega))
        · have h1 := (HLL5.out ad e).1
          have h2 := HK.out.size
          have h3 : w3.drew.heap.size = w3.heap.size := rfl
          have h4 : w.heap.size ≤ ad.block := by omega
          exact ⟨h4, fun hne => hfar ad h4 (HBB5.out.blk hne ad e)⟩
end Go.Proofs.YtjgiiciniplbnaaGreatDoor

namespace Go.Proofs.YtjgiiciniplbnaaGreatDoor
open Go Go.RowKit Go.Lib Go.Sort
set_option linter.unusedVariables false

theorem results_cc {fn : Func} {p q : Tmp} {ty tz : TypeId} (h : fn.results = #[.cell p ty, .cell q tz]) {tmps : Array Value} {P : Program} {w : World} {ad ae : Addr} {v u : Value} (hp : tmps.getD p undef = .pointer (some ad)) (hv : (loadVar ty ad).run P w = .ok v w) (hq : tmps.getD q undef = .pointer (some ae)) (hu : (loadVar tz ae).run P w = .ok u w) :
    (results fn tmps).run P w = .ok (.tuple #[v, u]) w := by
  have e : (results fn tmps).run P w = ((asAddr (tmps.getD p undef)).run P w).andThen fun a w₁ => ((loadVar ty a).run P w₁).andThen fun x w₂ => ((asAddr (tmps.getD q undef)).run P w₂).andThen fun b w₃ => ((loadVar tz b).run P w₃).andThen fun y w₄ => .ok (.tuple #[x, y]) w₄ := by
    simp only [results, h]
    simp [Sem.run_bind, Result.andThen]
  rw [e, hp, hq]
  simp [asAddr, hv, hu, Result.andThen]
theorem piece_allO (x : Int) (a : Option Addr) (n c : Nat) : (#[.int .i64 x, .slice a n c] : Array Value).all (·.oneCell') = true := all_oneCell_toArray (fun u hu => by simp at hu; rcases hu with rfl | rfl <;> rfl)
def pz : Array Value := #[.int .i64 0, .slice none 0 0]
set_option maxRecDepth 100000 in
set_option maxHeartbeats 8000000 in
theorem own_pl (k n t s : Int) (od : List Nat) (a : Option Addr) (m c : Nat) (D : List (List Nat)) (x : Int) (pa : Option Addr) (pn pc : Nat) (l : List Nat) (w : World) (hod : od.length = 32) (hb : Dgs w a m c D) (hm : m ≤ 100000)
    (hp : Bs w (.slice pa pn pc) l) (hpnil : pa = none → pc = 0) (hpn : pn ≤ 1000000) :
    Calls Tryz.prog 43 #[.agg (mcells k n t s od (.slice a m c)).toArray, .agg #[.int .i64 x, .slice pa pn pc]] w fun e w' => ∃ a' c' pa' pc', e = .returned (.tuple #[.agg (mcells k n t s od (.slice a' m c')).toArray, .agg #[.int .i64 x, .slice pa' pn pc']]) ∧ Dgs w' a' m c' D ∧ (∀ ad, a' = some ad → w.heap.size ≤ ad.block) ∧ Bs w' (.slice pa' pn pc') l ∧ pn ≤ pc' ∧ (pa' = none → pc' = 0) ∧ (∀ ad, pa' = some ad → w.heap.size ≤ ad.block) ∧ Below w.heap.size w w' := by
  obtain ⟨b, hbs⟩ : ∃ y, y = w.heap.size := ⟨_, rfl⟩
  obtain ⟨w2, hw2⟩ : ∃ y, y = (((w.alloc (.cells (mcells k n t s od (.slice a m c)).toArray 62)).alloc (.cells #[.int .i64 x, .slice pa pn pc] 68)).alloc (.cells mz 62)).alloc (.cells pz 68) := ⟨_, rfl⟩
  have hb2 : Below w.heap.size w w2 := by rw [hw2]; exact ((((Below.refl _ _).alloc (Nat.le_refl _) _).alloc (by simp) _).alloc (by simp; omega) _).alloc (by simp; omega) _
  have hs2 : w2.heap.size = b + 4 := by rw [hw2, hbs]; simp
  have HM := hid (show w2.heap[b]? = some (.cells (mcells k n t s od (.slice a m c)).toArray 62 (0, 0)) from by
    rw [hw2, hbs]
    exact heap_alloc (heap_alloc (heap_alloc (heap_new _ _) _) _) _)
  have HP := hid (show w2.heap[b + 1]? = some (.cells #[.int .i64 x, .slice pa pn pc] 68 (0, 0)) from by
    rw [hw2]
    have h := heap_new (w.alloc (.cells (mcells k n t s od (.slice a m c)).toArray 62)) (.cells #[.int .i64 x, .slice pa pn pc] 68)
    rw [show (w.alloc (.cells (mcells k n t s od (.slice a m c)).toArray 62)).heap.size = b + 1 from by rw [hbs]; simp] at h
    exact heap_alloc (heap_alloc h _) _)
  have HZ := hid (show w2.heap[b + 2]? = some (.cells mz 62 (0, 0)) from by
    rw [hw2]
    have h := heap_new ((w.alloc (.cells (mcells k n t s od (.slice a m c)).toArray 62)).alloc (.cells #[.int .i64 x, .slice pa pn pc] 68)) (.cells mz 62)
    rw [show ((w.alloc (.cells (mcells k n t s od (.slice a m c)).toArray 62)).alloc (.cells #[.int .i64 x, .slice pa pn pc] 68)).heap.size = b + 2 from by rw [hbs]; simp] at h
    exact heap_alloc h _)
  have HY := hid (show w2.heap[b + 3]? = some (.cells pz 68 (0, 0)) from by
    rw [hw2]
    have h := heap_new (((w.alloc (.cells (mcells k n t s od (.slice a m c)).toArray 62)).alloc (.cells #[.int .i64 x, .slice pa pn pc] 68)).alloc (.cells mz 62)) (.cells pz 68)
    rw [show (((w.alloc (.cells (mcells k n t s od (.slice a m c)).toArray 62)).alloc (.cells #[.int .i64 x, .slice pa pn pc] 68)).alloc (.cells mz 62)).heap.size = b + 3 from by rw [hbs]; simp] at h
    exact h)
  have HB2 := hid hb2
  have HS2 := hid hs2
  have HBB := hid hbs
  have HW2 := hid hw2
  have HOD := hid hod
  have HD2 := hid (hb.below hb2)
  have HP2 := hid (hp.below hb2)
  have HPW := hid hp
  clear hbs hb2 hs2 hb hp hw2
  go_enter Tryz.func43, Tryz.ntmps43
  go_upto_region 1 with fail
  change Code.wp _ _ _ _ ((((w.alloc (.cells (mcells k n t s od (.slice a m c)).toArray 62)).alloc (.cells #[.int .i64 x, .slice pa pn pc] 68)).alloc (.cells mz 62)).alloc (.cells pz 68))
  rw [← HW2.out, ← HBB.out]
  clear HW2
  have d36 := (show ManAt w2 b k n t s od (.slice a m c) from HM.out).c hod |>.2.2.2.2
  have hlt2 : b < w2.heap.size := by have := HS2.out; omega
  go_wp2_with (first
    | ((have h0 := HD2.out)
       (refine wpList_cloneD (by rfl) (.tmp 6) (.tmp 8) (by rfl) w2.heap.size (by rfl) (heap_new _ _) a m c D (by rfl) (h0.below ((Below.refl _ _).alloc (Nat.le_refl _) _)) hm ?_)
       (intro a5 c5 w5 hd5 hl5 hk5)
       (have hbl : Below w2.heap.size w2 w5 := ((Below.refl _ _).alloc (Nat.le_refl w2.heap.size) (.cells #[] 23)).trans (hk5.below (by simp) (Nat.le_refl _)))
       (have HM5 := hid (show ManAt w5 b k n t s od (.slice a m c) from (hbl.block _ (by have := HS2.out; omega)).trans HM.out))
       (have HP5 := hid ((hbl.block _ (by have := HS2.out; omega)).trans HP.out))
       (have HZ5 := hid ((hbl.block _ (by have := HS2.out; omega)).trans HZ.out))
       (have HY5 := hid ((hbl.block _ (by have := HS2.out; omega)).trans HY.out))
       (have HB5 := hid (HB2.out.trans (hbl.mono HB2.out.size)))
       (have HD5 := hid hd5)
       (have HL5 := hid hl5)
       (have HS5 := hid (show b + 4 ≤ w5.heap.size from by have h1 := hbl.size; have h2 := HS2.out; omega))
       (have g36 := (HM5.out.c HOD.out).2.2.2.2)
       (have f36 := free_of_heap HM5.out 36)
       (have HM6 := hid (man_rowO HM5.out HOD.out (.slice a5 m c5)))
       (have HO6 := hid (show ∀ j : Nat, j ≠ b → (w5.setCell ⟨b, 36, none⟩ (.slice a5 m c5)).heap[j]? = w5.heap[j]? from fun j hj => heap_setCell_other w5 ⟨b, 36, none⟩ j (.slice a5 m c5) (by show j ≠ b; exact hj)))
       (have p1 : (w5.setCell ⟨b, 36, none⟩ (.slice a5 m c5)).cell? ⟨b + 1, 1, none⟩ = some (.slice pa pn pc) := by rw [cell_of_heap ((HO6.out (b + 1) (by omega)).trans HP5.out)]; rfl)
       (have p2 : w5.cell? ⟨b + 1, 1, none⟩ = some (.slice pa pn pc) := by rw [cell_of_heap HP5.out]; rfl)
       (have hlt5 : b + 1 < w5.heap.size := by have := HS5.out; omega)
       (have HS6 := hid (show (w5.setCell ⟨b, 36, none⟩ (.slice a5 m c5)).heap.size = w5.heap.size from by simp))
       (have HB6 := hid (show Below w.heap.size w (w5.setCell ⟨b, 36, none⟩ (.slice a5 m c5)) from HB5.out.setCell (by have := HBB.out; show w.heap.size ≤ b; omega) _))
       (have HK6 := hid ((Kept.refl b w5).setCell (p := ⟨b, 36, none⟩) rfl (.slice a5 m c5)))
       (clear hd5 hl5 hk5 hbl d36 h0 HD2 HP2 HM HP HZ HY))
    | ((have h0 := HS6.out)
       (have hnew : ((w5.setCell ⟨b, 36, none⟩ (.slice a5 m c5)).alloc (.cells #[] 5)).heap[w5.heap.size]? = some (.cells #[] 5 (0, 0)) := by
          have h := heap_new (w5.setCell ⟨b, 36, none⟩ (.slice a5 m c5)) (.cells #[] 5)
          rw [h0] at h
          exact h)
       (refine wpList_clone (by rfl) (.tmp 11) (.tmp 13) (by rfl) w5.heap.size (by rfl) hnew pa pn pc l (by rfl) ((HPW.out.below HB6.out).below ((Below.refl _ _).alloc (Nat.le_refl _) _)) hpnil (by omega) ?_)
       (intro a7 c7 w7 hb7 hc7 hl7 hn7 hk7)
       (have hbl : Below w5.heap.size (w5.setCell ⟨b, 36, none⟩ (.slice a5 m c5)) w7 := ((Below.refl w5.heap.size (w5.setCell ⟨b, 36, none⟩ (.slice a5 m c5))).alloc (by rw [h0]; exact Nat.le_refl _) (.cells #[] 5)).trans (hk7.below (by simp) (Nat.le_refl _)))
       (have hs5 := HS5.out)
       (have HM7 := hid ((hbl.block b (by omega)).trans HM6.out))
       (have HP7 := hid ((hbl.block (b + 1) (by omega)).trans ((HO6.out (b + 1) (by omega)).trans HP5.out)))
       (have HZ7 := hid ((hbl.block (b + 2) (by omega)).trans ((HO6.out (b + 2) (by omega)).trans HZ5.out)))
       (have HY7 := hid ((hbl.block (b + 3) (by omega)).trans ((HO6.out (b + 3) (by omega)).trans HY5.out)))
       (have HB7 := hid (HB6.out.trans (hbl.mono (by have := HBB.out; omega))))
       (have HBS7 := hid hb7)
       (have HC7 := hid hc7)
       (have HL7 := hid hl7)
       (have HN7 := hid hn7)
       (have HD7 := hid ((HD5.out.kept HK6.out (fun ad e => by have h1 := HL5.out ad e; have h2 := HS2.out; omega)).below (by rw [h0]; exact hbl)))
       (have g1 : w7.cell? ⟨b + 1, 1, none⟩ = some (.slice pa pn pc) := by rw [cell_of_heap HP7.out]; rfl)
       (have f1 := free_of_heap HP7.out 1)
       (clear hb7 hc7 hl7 hn7 hk7 hbl h0 hnew p1 p2 g36 f36)))
  obtain ⟨w8, hw8⟩ : ∃ y, y = w7.setCell ⟨b + 1, 1, none⟩ (.slice a7 pn c7) := ⟨_, rfl⟩
  have HO8 := hid (show ∀ j : Nat, j ≠ b + 1 → w8.heap[j]? = w7.heap[j]? from fun j hj => by rw [hw8]; exact heap_setCell_other w7 ⟨b + 1, 1, none⟩ j (.slice a7 pn c7) (by show j ≠ b + 1; exact hj))
  have HP8 := hid (show w8.heap[b + 1]? = some (.cells #[.int .i64 x, .slice a7 pn c7] 68 (0, 0)) from by
    rw [hw8, heap_set HP7.out 1 (.slice a7 pn c7)]
    rfl)
  have HM8 := hid ((HO8.out b (by omega)).trans HM7.out)
  have HZ8 := hid ((HO8.out (b + 2) (by omega)).trans HZ7.out)
  have HY8 := hid ((HO8.out (b + 3) (by omega)).trans HY7.out)
  have HB8 := hid (show Below w.heap.size w w8 from by rw [hw8]; exact HB7.out.setCell (by have := HBB.out; show w.heap.size ≤ b + 1; omega) _)
  have HK8 := hid (show Kept (b + 1) w7 w8 from by rw [hw8]; exact (Kept.refl (b + 1) w7).setCell (p := ⟨b + 1, 1, none⟩) rfl (.slice a7 pn c7))
  have HML := hid (mcells_length k n t s od (.slice a5 m c5) HOD.out)
  have HON := hid (mcells_one k n t s od a5 m c5)
  have HIFa := hid (show (Tryz.prog.info? 62).map (·.size) = some (mcells k n t s od (.slice a5 m c5)).toArray.size from by rw [List.size_toArray, HML.out]; kernel_rfl)
  have HSZa := hid (show mz.size = (mcells k n t s od (.slice a5 m c5)).toArray.size from by rw [mz_sizeO]; rw [List.size_toArray, HML.out])
  have HIFp := hid (show (Tryz.prog.info? 68).map (·.size) = some (#[.int .i64 x, .slice a7 pn c7] : Array Value).size from by show _ = some 2; kernel_rfl)
  obtain ⟨MA, hMA⟩ : ∃ y, y = (mcells k n t s od (.slice a5 m c5)).toArray := ⟨_, rfl⟩
  rw [← hMA] at HM8 HON HIFa HSZa
  have HMA := hid hMA
  have HKP := hid (show ∀ wx : World, wx.heap[b]? = w8.heap[b]? → wx.heap[b + 1]? = w8.heap[b + 1]? → (loadVar 62 ⟨b, 0, none⟩).run Tryz.prog wx = .ok (.agg MA) wx ∧ (loadVar 68 ⟨b + 1, 0, none⟩).run Tryz.prog wx = .ok (.agg #[.int .i64 x, .slice a7 pn c7]) wx from fun wx h1 h2 =>
    ⟨run_loadVar_row wx b 62 62 MA (0, 0) _ (h1.trans HM8.out) Tryz.underlying62 rfl HIFa.out, run_loadVar_row wx (b + 1) 68 68 _ (0, 0) _ (h2.trans HP8.out) Tryz.underlying68 rfl HIFp.out⟩)
  rw [← hw8]
  clear hw8 hMA g1 f1
  go_upto_region 3 with fail
  refine wp_region_held_drew (S := (fun wx : World => (loadVar 62 ⟨b, 0, none⟩).run Tryz.prog wx = .ok (.agg MA) wx ∧ (loadVar 68 ⟨b + 1, 0, none⟩).run Tryz.prog wx = .ok (.agg #[.int .i64 x, .slice a7 pn c7]) wx)) (by kernel_rfl) (HKP.out _ rfl rfl) (fun hHeld => ?_)
  refine wpAnyH_take (i := 0) (oi := { dst := some 16, op := Op.load 62 (Operand.tmp 2), type := 62, pos := "law.go:122", after := #[], guard := none }) (v := .agg MA) rfl (by kernel_rfl) (by kernel_rfl) (by kernel_rfl) (fun _ _ _ h => h) (Or.inl ⟨by rfl, ?hy⟩) hHeld ?_
  case hy => (intro w hSw; exact run_load_opP hSw.1)
  try simp only [Act.put, List.setIfInBounds_toArray, List.set_cons_zero, List.set_cons_succ]
  refine wpAnyH_take (i := 1) (oi := { dst := some 17, op := Op.load 68 (Operand.tmp 3), type := 68, pos := "law.go:122", after := #[{ on := 2, ground := Ground.gcOnly Departure.lateStores }], guard := none }) (v := .agg #[.int .i64 x, .slice a7 pn c7]) rfl (by kernel_rfl) (by kernel_rfl) (by kernel_rfl) (fun _ _ _ h => h) (Or.inl ⟨by rfl, ?hy⟩) hHeld ?_
  case hy => (intro w hSw; exact run_load_opP hSw.2)
  try simp only [Act.put, List.setIfInBounds_toArray, List.set_cons_zero, List.set_cons_succ]
  refine wpAnyH_ready (rs := [2]) (by kernel_rfl) (by simp) ?_
  refine AllReadyH.cons (o := { dst := none, op := Op.store 62 (Operand.tmp 4) (Operand.tmp 16), type := 0, pos := "law.go:122", after := #[{ on := 0, ground := Ground.data }, { on := 0, ground := Ground.phase }, { on := 1, ground := Ground.textOnly Departure.lateStores }], guard := none }) rfl (fun K hK => ?_) AllReadyH.nil
  refine step_store_row rfl 62 (.tmp 4) (.tmp 16) rfl (b + 2) mz MA 62 rfl rfl HZ8.out HIFa.out HSZa.out HON.out ?_
  intro w9 hw9 hk9
  have hk9d : Kept (b + 2) w8 w9 := ((Kept.refl (b + 2) w8).drewN 1).trans hk9
  have HK9 := hid hk9d
  have HS8 := hid (show b + 4 ≤ w8.heap.size from by have h := lt_of_heap HY8.out; omega)
  have H39 := hid ((hk9d.block (b + 3) (by have := HS8.out; omega) (by omega)).trans HY8.out)
  have H29 := hid hw9
  have HB9 := hid (HB8.out.trans (hk9d.below HB8.out.size (by have := HBB.out; omega)))
  refine hK.out _ _ (HKP.out _ (hk9d.block b (by have := HS8.out; omega) (by omega)) (hk9d.block (b + 1) (by have := HS8.out; omega) (by omega))) (fun hHeld => ?_)
  have HB0 := hid (hk9d.block b (by have := HS8.out; omega) (by omega))
  have HB1 := hid (hk9d.block (b + 1) (by have := HS8.out; omega) (by omega))
  clear hK K hw9 hk9 hk9d
  try simp only [Act.put]
  refine wpAnyH_ready (rs := [3]) (by kernel_rfl) (by simp) ?_
  refine AllReadyH.cons (o := { dst := none, op := Op.store 68 (Operand.tmp 5) (Operand.tmp 17), type := 0, pos := "law.go:122", after := #[{ on := 1, ground := Ground.data }, { on := 2, ground := Ground.chain }, { on := 0, ground := Ground.phase }, { on := 1, ground := Ground.phase }, { on := 2, ground := Ground.phase }], guard := none }) rfl (fun K hK => ?_) AllReadyH.nil
  refine step_store_row rfl 68 (.tmp 5) (.tmp 17) rfl (b + 3) pz #[.int .i64 x, .slice a7 pn c7] 68 rfl rfl H39.out HIFp.out rfl (piece_allO _ _ _ _) ?_
  intro w10 hw10 hk10
  have HK10 := hid hk10
  have H210 := hid ((hk10.block (b + 2) (lt_of_heap H29.out) (by omega)).trans H29.out)
  have H310 := hid hw10
  have HB10 := hid (HB9.out.trans (hk10.below HB9.out.size (by have := HBB.out; omega)))
  refine hK.out _ _ (HKP.out _ ((hk10.block b (by have h := lt_of_heap H29.out; omega) (by omega)).trans HB0.out) ((hk10.block (b + 1) (by have h := lt_of_heap H29.out; omega) (by omega)).trans HB1.out)) (fun hHeld => ?_)
  clear hK K hw10 hk10
  try simp only [Act.put]
  refine wpAnyH_done (by kernel_rfl) ?_ _
  go_wp2_with fail
  have hr1 := run_loadVar_row (P := Tryz.prog) w10 (b + 2) 62 62 _ (0, 0) _ H210.out Tryz.underlying62 rfl HIFa.out
  have hr2 := run_loadVar_row (P := Tryz.prog) w10 (b + 3) 68 68 _ (0, 0) _ H310.out Tryz.underlying68 rfl HIFp.out
  refine bodyPost_ret (v := .tuple #[.agg MA, .agg #[.int .i64 x, .slice a7 pn c7]]) (results_cc Tryz.results43 rfl hr1 rfl hr2) rfl ⟨a5, c5, a7, c7, by rw [HMA.out], ?_, fun ad e => ?_, ?_, HC7.out, HN7.out, fun ad e => ?_, HB10.out⟩
  · exact ((HD7.out.kept HK8.out (fun ad e => by have h1 := HL5.out ad e; have h2 := HS2.out; omega)).kept HK9.out (fun ad e => by have h1 := HL5.out ad e; have h2 := HS2.out; omega)).kept HK10.out (fun ad e => by have h1 := HL5.out ad e; have h2 := HS2.out; omega)
  · have h1 := HL5.out ad e
    have h2 := HS2.out
    have h3 := HBB.out
    omega
  · have hoff : ∀ q, q < b + 4 → Off q (.slice a7 pn c7) := fun q hq => by
      cases a7 with
      | none => trivial
      | some ad =>
        have h1 := (HL7.out ad rfl).1
        have h2 := HS5.out
        show ad.block ≠ q
        omega
    exact ((HBS7.out.kept HK8.out (hoff _ (by omega))).kept HK9.out (hoff _ (by omega))).kept HK10.out (hoff _ (by omega))
  · have h1 := (HL7.out ad e).1
    have h2 := HS5.out
    have h3 := HBB.out
    omega
end Go.Proofs.YtjgiiciniplbnaaGreatDoor

namespace Go.Proofs.YtjgiiciniplbnaaGreatDoor
open Go Go.RowKit Go.Lib Go.Sort
set_option linter.unusedVariables false

set_option maxRecDepth 100000 in
set_option maxHeartbeats 2000000 in
theorem Note_nil (obj : List Nat) (p t : Int) (w : World) : Calls Tryz.prog 33 #[.pointer none, .agg (u8s obj).toArray, .int .i64 p, .int .u64 t] w fun e w' => e = .returned (.tuple #[]) ∧ Below w.heap.size w w' := by
  have HIP := hid (isPeer_any p (w.alloc (.cells (u8s obj).toArray 23)))
  go_enter Tryz.func33, Tryz.ntmps33
  go_wp2
  refine bodyPost_ret (results_none rfl _ _ _) rfl ?_
  exact ⟨rfl, (Below.refl _ _).alloc (Nat.le_refl _) _⟩
set_option maxRecDepth 100000 in
set_option maxHeartbeats 2000000 in
theorem Sweep_nil (t : Int) (w : World) : Calls Tryz.prog 35 #[.pointer none, .int .u64 t] w fun e w' => e = .returned (.tuple #[]) ∧ Below w.heap.size w w' := by
  go_enter Tryz.func35, Tryz.ntmps35
  go_wp2
  refine bodyPost_ret (results_none rfl _ _ _) rfl ?_
  exact ⟨rfl, Below.refl _ _⟩
set_option maxRecDepth 100000 in
set_option maxHeartbeats 2000000 in
theorem Ready_nil (w : World) : Calls Tryz.prog 47 #[.pointer none] w fun e w' => e = .returned (.bool false) ∧ Below w.heap.size w w' := by
  go_enter Tryz.func47, Tryz.ntmps47
  go_upto_region 1 with fail
  go_quiet (fail)
  go_wp2
  go_ret
  exact ⟨rfl, bel_drewN (Below.refl _ _) _⟩
set_option maxRecDepth 100000 in
set_option maxHeartbeats 2000000 in
theorem Indices_nil (w : World) : Calls Tryz.prog 50 #[.pointer none] w fun e w' => e = .returned (.slice none 0 0) ∧ Below w.heap.size w w' := by
  go_enter Tryz.func50, Tryz.ntmps50
  go_wp2
  go_ret
  exact ⟨rfl, Below.refl _ _⟩
set_option maxRecDepth 100000 in
set_option maxHeartbeats 2000000 in
theorem Offer_nil (MC PC : Array Value) (w : World) : Calls Tryz.prog 44 #[.pointer none, .agg MC, .agg PC] w fun e w' => e = .returned (.int .i64 1) ∧ Below w.heap.size w w' := by
  go_enter Tryz.func44, Tryz.ntmps44
  go_wp2
  go_ret
  exact ⟨rfl, ((Below.refl _ _).alloc (Nat.le_refl _) _).alloc (by simp) _⟩
set_option maxRecDepth 100000 in
set_option maxHeartbeats 2000000 in
theorem Claimants_nil (obj : List Nat) (w : World) : Calls Tryz.prog 37 #[.pointer none, .agg (u8s obj).toArray] w fun e w' => e = .returned (.slice none 0 0) ∧ Below w.heap.size w w' := by
  go_enter Tryz.func37, Tryz.ntmps37
  go_wp2
  go_ret
  exact ⟨rfl, (Below.refl _ _).alloc (Nat.le_refl _) _⟩
set_option maxRecDepth 100000 in
set_option maxHeartbeats 2000000 in
theorem Blocked_nil (obj : List Nat) (self t : Int) (vl vh : Value) (w : World) : Calls Tryz.prog 39 #[.pointer none, .agg (u8s obj).toArray, .int .i64 self, .int .u64 t, vl, vh] w fun e w' => e = .returned (.bool false) ∧ Below w.heap.size w w' := by
  go_enter Tryz.func39, Tryz.ntmps39
  go_wp2
  go_ret
  exact ⟨rfl, (Below.refl _ _).alloc (Nat.le_refl _) _⟩
set_option maxRecDepth 100000 in
set_option maxHeartbeats 2000000 in
theorem complete_nil (w : World) : Calls Tryz.prog 79 #[.pointer none] w fun e w' => e = .returned (.int .i64 1) ∧ Below w.heap.size w w' := by
  go_enter Tryz.func79, Tryz.ntmps79
  go_wp2
  go_ret
  exact ⟨rfl, Below.refl _ _⟩
set_option maxRecDepth 100000 in
set_option maxHeartbeats 2000000 in
theorem Data_nil (f : Value) (w : World) : Calls Tryz.prog 52 #[.pointer none, f] w fun e w' => e = .returned (.tuple #[.slice none 0 0, .int .i64 1]) ∧ Below w.heap.size w w' := by
  go_enter Tryz.func52, Tryz.ntmps52
  go_wp2_with fail
  refine (complete_nil w).mono ?_
  rintro e w1 ⟨rfl, hb1⟩
  go_wp2
  go_ret2
  exact ⟨rfl, hb1⟩
set_option maxRecDepth 100000 in
set_option maxHeartbeats 2000000 in
theorem Piece_nil (f : Value) (x : Int) (w : World) : Calls Tryz.prog 54 #[.pointer none, f, .int .i64 x] w fun e w' => e = .returned (.tuple #[.agg #[.int .i64 0, .slice none 0 0], .int .i64 1]) ∧ Below w.heap.size w w' := by
  have hb : Tryz.prog.built 68 [] = some #[.int .i64 0, .slice none 0 0] := by kernel_rfl
  go_enter Tryz.func54, Tryz.ntmps54
  go_wp2_with fail
  refine (complete_nil _).mono ?_
  rintro e w1 ⟨rfl, hb1⟩
  have hbl := (((Below.refl w.heap.size w).alloc (Nat.le_refl _) (.cells #[.int .i64 0, .slice none 0 0] 68))).trans (hb1.mono (by simp))
  have h0 := (hb1.block w.heap.size (by simp)).trans (heap_new w (.cells #[.int .i64 0, .slice none 0 0] 68))
  have c0 : w1.cell? ⟨w.heap.size, 0, none⟩ = some (.int .i64 0) := by rw [cell_of_heap h0]; rfl
  have c1 : w1.cell? ⟨w.heap.size, 1, none⟩ = some (.slice none 0 0) := by rw [cell_of_heap h0]; rfl
  have f0 := free_of_heap h0 0
  have f1 := free_of_heap h0 1
  have hk : ∀ v0 v1, ((w1.setCell ⟨w.heap.size, 0, none⟩ v0).setCell ⟨w.heap.size, 1, none⟩ v1).heap[w.heap.size]? = some (.cells #[v0, v1] 68 (0, 0)) := fun v0 v1 => by
    have h1 := heap_set (heap_set h0 0 v0) 1 v1
    rw [h1]
    rfl
  have hs : ∀ v0 v1, Below w.heap.size w ((w1.setCell ⟨w.heap.size, 0, none⟩ v0).setCell ⟨w.heap.size, 1, none⟩ v1) := fun v0 v1 => (hbl.setCell (Nat.le_refl _) _).setCell (Nat.le_refl _) _
  go_wp2
  have hif : (Tryz.prog.info? 68).map (·.size) = some (#[.int .i64 0, .slice none 0 0] : Array Value).size := by kernel_rfl
  have hres := run_loadVar_row (P := Tryz.prog) _ _ 68 68 _ (0, 0) _ (hk (.int .i64 0) (.slice none 0 0)) Tryz.underlying68 rfl hif
  exact bodyPost_ret (v := .tuple #[.agg #[.int .i64 0, .slice none 0 0], .int .i64 1]) (results_di Tryz.results54 rfl hres rfl) rfl ⟨rfl, hs _ _⟩
end Go.Proofs.YtjgiiciniplbnaaGreatDoor

namespace Go.Proofs.YtjgiiciniplbnaaGreatDoor
open Go Go.RowKit
set_option linter.unusedVariables false

/-- the number occurs earlier -/
def occ (idx : Nat → Int) (i : Nat) (v : Int) : Bool := (List.range i).any fun j => idx j == v
theorem occ_iff (idx : Nat → Int) (i : Nat) (v : Int) : occ idx i v = true ↔ ∃ j, j < i ∧ idx j = v := by
  unfold occ
  rw [List.any_eq_true]
  constructor
  · rintro ⟨j, h1, h2⟩; exact ⟨j, List.mem_range.1 h1, by simpa using h2⟩
  · rintro ⟨j, h1, h2⟩; exact ⟨j, List.mem_range.2 h1, by simpa using h2⟩
theorem occ_succ (idx : Nat → Int) (i : Nat) (v : Int) : occ idx (i + 1) v = (occ idx i v || idx i == v) := by
  unfold occ
  rw [List.range_succ, List.any_append]
  simp
/-- the error of piece i -/
def stepE (t : Int) (idx ce : Nat → Int) (i : Nat) : Int := if idx i < 0 ∨ t ≤ idx i then 2 else if occ idx i (idx i) = true then 7 else ce i
/-- the first error of the first pieces, or 0 -/
def chkTo (t : Int) (idx ce : Nat → Int) : Nat → Int
  | 0 => 0
  | i + 1 => if chkTo t idx ce i = 0 then stepE t idx ce i else chkTo t idx ce i
/-- the error of n pieces of which k are needed -/
def chkAll (k t : Int) (idx ce : Nat → Int) (n : Nat) : Int := if chkTo t idx ce n = 0 then (if (n : Int) < k then 12 else 0) else chkTo t idx ce n
theorem chkTo_stop {t : Int} {idx ce : Nat → Int} {i : Nat} (h : chkTo t idx ce i = 0) (h2 : stepE t idx ce i ≠ 0) : ∀ n, i < n → chkTo t idx ce n = stepE t idx ce i
  | 0, hn => absurd hn (Nat.not_lt_zero i)
  | n + 1, hn => by
    unfold chkTo
    by_cases e : i = n
    · subst e; rw [if_pos h]
    · rw [chkTo_stop h h2 n (by omega), if_neg h2]
theorem chkAll_stop {k t : Int} {idx ce : Nat → Int} {i n : Nat} (h : chkTo t idx ce i = 0) (h2 : stepE t idx ce i ≠ 0) (hn : i < n) : chkAll k t idx ce n = stepE t idx ce i := by
  unfold chkAll
  rw [chkTo_stop h h2 n hn, if_neg h2]
theorem chkTo_next {t : Int} {idx ce : Nat → Int} {i : Nat} (h : chkTo t idx ce i = 0) (h2 : stepE t idx ce i = 0) : chkTo t idx ce (i + 1) = 0 := by
  unfold chkTo
  rw [if_pos h, h2]
/-- the flags -/
def flags (idx : Nat → Int) (i : Nat) : Array Value := ((List.range 255).map fun v => Value.bool (occ idx i (v : Nat))).toArray
theorem flags_zero (idx : Nat → Int) : flags idx 0 = Array.replicate 255 (.bool false) := by
  apply Array.ext'
  rw [Array.toList_replicate, List.eq_replicate_iff]
  refine ⟨?_, fun b hb => ?_⟩
  · show ((List.range 255).map _).length = 255
    rw [List.length_map, List.length_range]
  · obtain ⟨x, _, rfl⟩ := List.mem_map.1 hb
    rfl
theorem flags_get (idx : Nat → Int) (i v : Nat) (hv : v < 255) : (flags idx i)[v]? = some (.bool (occ idx i v)) := by
  unfold flags
  simp [List.getElem?_range hv]
theorem flags_set (idx : Nat → Int) (i v : Nat) (hv : v < 255) (h : idx i = v) : (flags idx i).setIfInBounds v (.bool true) = flags idx (i + 1) := by
  apply Array.ext'
  unfold flags
  rw [Array.toList_setIfInBounds]
  apply List.ext_getElem?
  intro j
  rw [List.getElem?_set]
  by_cases e : v = j
  · subst e
    simp [hv, occ_succ, h]
  · rw [if_neg e]
    by_cases hj : j < 255
    · simp [hj, occ_succ, h]
      intro e2; omega
    · rw [List.getElem?_eq_none (by simp; omega), List.getElem?_eq_none (by simp; omega)]

theorem lenIs_any (a : Option Addr) (n c lb : Nat) (L : Int) (w : World) (hL : w.cell? ⟨lb, 0, none⟩ = some (.int .i64 L)) :
    Calls Tryz.prog 136 #[.slice a n c, .pointer (some ⟨lb, 0, none⟩)] w fun e w' => e = .returned (.int .i64 (if (n : Int) = L then 0 else 10)) ∧ w = w' := by
  by_cases h : (n : Int) = L
  · have b1 : ((n : Int) != L) = false := by simp [h]
    have H := hid h
    clear h
    go_enter Tryz.func136, Tryz.ntmps136
    go_wp2
    go_ret
    exact ⟨rfl, rfl⟩
  · have b1 : ((n : Int) != L) = true := by simp [h]
    have H := hid h
    clear h
    go_enter Tryz.func136, Tryz.ntmps136
    go_wp2
    go_ret
    exact ⟨rfl, rfl⟩

/-- what a list of pieces gives: the numbers -/
def pidx (ps : List (Int × Sl)) (i : Nat) : Int := (ps.getD i (0, none, 0, 0)).1
def plen' (ps : List (Int × Sl)) (i : Nat) : Nat := (ps.getD i (0, none, 0, 0)).2.2.1
theorem pidx_at (ps : List (Int × Sl)) (i : Nat) (h : i < ps.length) : ps[i].1 = pidx ps i := by
  unfold pidx
  rw [List.getD_eq_getElem?_getD, List.getElem?_eq_getElem h]; rfl
theorem plen_at (ps : List (Int × Sl)) (i : Nat) (h : i < ps.length) : ps[i].2.2.1 = plen' ps i := by
  unfold plen'
  rw [List.getD_eq_getElem?_getD, List.getElem?_eq_getElem h]; rfl

theorem zero_flags (idx : Nat → Int) : Tryz.zeroCells248 = flags idx 0 := by
  rw [flags_zero]
  kernel_rfl
/-- what the loop keeps -/
structure ChkI (k t : Int) (idx ce : Nat → Int) (w wr : World) (i : Nat) : Prop where
  seen : wr.heap[w.heap.size]? = some (.cells (flags idx i) 248 (0, 0))
  below : Below w.heap.size w wr
  clean : chkTo t idx ce i = 0
theorem bel_sa {w wr : World} (h : Below w.heap.size w wr) (v : Nat) (u : Value) (o : Obj) : Below w.heap.size w ((wr.setCell ⟨w.heap.size, v, none⟩ u).alloc o) :=
  (h.setCell (p := ⟨w.heap.size, v, none⟩) (Nat.le_refl _) u).alloc (by simp; exact h.size) o
theorem ChkI.next {k t : Int} {idx ce : Nat → Int} {w wr : World} {i v : Nat} (h : ChkI k t idx ce w wr i) (o : Obj) (hv : idx i = v) (hv2 : v < 255) (ht : idx i < t) (hocc : occ idx i v = false) (hce : ce i = 0) : ChkI k t idx ce w ((wr.setCell ⟨w.heap.size, v, none⟩ (.bool true)).alloc o) (i + 1) := by
  refine ⟨heap_alloc ?_ o, bel_sa h.below v _ o, chkTo_next h.clean ?_⟩
  · have h5 := heap_set h.seen v (.bool true)
    rwa [flags_set idx i v hv2 hv] at h5
  · unfold stepE
    rw [if_neg (by omega), hv, if_neg (by rw [hocc]; decide), hce]

set_option maxRecDepth 100000 in
set_option maxHeartbeats 2000000 in
theorem chkD_any (k t : Int) (a : Option Addr) (n c lb : Nat) (L : Int) (ps : List (Int × Sl)) (w : World) (ht : t ≤ 255) (hp : Ps w (.slice a n c) ps) (hL : w.cell? ⟨lb, 0, none⟩ = some (.int .i64 L)) (hlb : lb < w.heap.size) (hn : n ≤ 100000) :
    Calls Tryz.prog 135 #[.int .i64 k, .int .i64 t, .slice a n c, .func (.func 136) #[] #[.pointer (some ⟨lb, 0, none⟩)]] w fun e w' => e = .returned (.int .i64 (chkAll k t (pidx ps) (fun i => if ((plen' ps i : Nat) : Int) = L then 0 else 10) n)) ∧ Below w.heap.size w w' := by
  have hnp : n = ps.length := by obtain ⟨_, _, h, _⟩ := hp; simp at h; exact h.2.1
  have HN := hid hnp
  have HP := hid hp
  have HL := hid hL
  clear hnp hp hL
  obtain ⟨ce, hce⟩ : ∃ ce : Nat → Int, ce = fun i => if ((plen' ps i : Nat) : Int) = L then 0 else 10 := ⟨_, rfl⟩
  have HCE := hid hce
  rw [← hce]
  clear hce
  have h0 : ChkI k t (pidx ps) ce w (w.alloc (.cells Tryz.zeroCells248 248)) 0 := ⟨by rw [zero_flags (pidx ps)]; exact heap_new _ _, (Below.refl _ _).alloc (Nat.le_refl _) _, rfl⟩
  have HINV := hid h0
  clear h0
  go_enter Tryz.func135, Tryz.ntmps135
  go_wp2
  go_loopw [15] (fun iv wr => ∃ i : Nat, i ≤ n ∧ iv = .int .i64 i ∧ Hid (ChkI k t (pidx ps) ce w wr i)) (fun iv _ => n - (intOf iv).toNat)
  case atStart => exact ⟨0, by omega, rfl, HINV⟩
  case round =>
    clear HINV
    obtain ⟨i, hi, rfl, HINV⟩ := hrel
    by_cases hlt : i < n
    · have HPr := HP.out.below HINV.out.below
      obtain ⟨b, o, rfl⟩ : ∃ b o, a = some ⟨b, o, none⟩ := by
        obtain ⟨a', c', h1, h3⟩ := HPr
        obtain ⟨b, o, ha, _⟩ := h3 (by intro e; rw [e] at HN; have := HN.out; simp at this; omega)
        simp at h1
        exact ⟨b, o, h1.1.trans ha⟩
      have hcs := HPr.cells i (by rw [← HN.out]; exact hlt)
      obtain ⟨q0, q1⟩ := hcs
      rw [pidx_at] at q0
      rw [plen_at] at q1
      have hsz : w.heap.size < wr.heap.size := lt_of_heap HINV.out.seen
      clear HPr
      generalize hda : (ps[i]'_).2.1 = da at *
      generalize hdc : (ps[i]'_).2.2.2 = dc at *
      clear hda hdc
      by_cases hbad : pidx ps i < 0 ∨ t ≤ pidx ps i
      · have hst : chkAll k t (pidx ps) ce n = 2 := by
          have h2 : stepE t (pidx ps) ce i = 2 := by unfold stepE; rw [if_pos hbad]
          rw [chkAll_stop HINV.out.clean (by rw [h2]; decide) hlt, h2]
        have HST := hid hst
        clear hst
        have hbe := HINV.out.below
        generalize pidx ps i = v at *
        by_cases h0 : v < 0
        · clear hbad
          go_wp2
          go_ret
          exact ⟨ret_int HST.out.symm, hbe.alloc hbe.size _⟩
        · have h1 : t ≤ v := by omega
          clear hbad
          go_wp2
          go_ret
          exact ⟨ret_int HST.out.symm, hbe.alloc hbe.size _⟩
      · obtain ⟨v, hv⟩ : ∃ v : Nat, pidx ps i = v := ⟨(pidx ps i).toNat, by omega⟩
        have hvt : (v : Int) < t := by omega
        have hv2 : v < 255 := by omega
        have cv := cell_of_heap HINV.out.seen v
        rw [flags_get _ _ _ hv2] at cv
        have fv := free_of_heap HINV.out.seen v
        have hbe := HINV.out.below
        rw [hv] at q0
        have HV := hid hv
        clear hbad hv
        by_cases hoc : occ (pidx ps) i v = true
        · rw [hoc] at cv
          have hst : chkAll k t (pidx ps) ce n = 7 := by
            have h2 : stepE t (pidx ps) ce i = 7 := by unfold stepE; rw [if_neg (by rw [HV.out]; omega), HV.out, if_pos hoc]
            rw [chkAll_stop HINV.out.clean (by rw [h2]; decide) hlt, h2]
          have HST := hid hst
          clear hst hoc
          go_wp2
          go_ret
          exact ⟨ret_int HST.out.symm, hbe.alloc hbe.size _⟩
        · have hoc : occ (pidx ps) i v = false := by simpa using hoc
          rw [hoc] at cv
          have HOC := hid hoc
          clear hoc
          go_wp2_with fail
          refine (lenIs_any _ _ _ lb L _ ?_).mono ?_
          · exact ((bel_sa hbe v _ _).cell (p := ⟨lb, 0, none⟩) hlb).trans HL.out
          rintro e w5 ⟨rfl, rfl⟩
          by_cases hln : ((plen' ps i : Nat) : Int) = L
          · have NX := hid (HINV.out.next (Obj.cells #[.int .i64 v, .slice da (plen' ps i) dc] 68) HV.out hv2 (by rw [HV.out]; exact hvt) HOC.out (by rw [HCE.out]; exact if_pos hln))
            rw [if_pos hln]
            clear hln cv fv q0 q1
            go_wp2
            exact ⟨⟨i + 1, by omega, by go_num, NX⟩, by simp [intOf]; omega⟩
          · rw [if_neg hln]
            have hst : chkAll k t (pidx ps) ce n = 10 := by
              have h2 : stepE t (pidx ps) ce i = 10 := by unfold stepE; rw [if_neg (by rw [HV.out]; omega), HV.out, if_neg (by rw [HOC.out]; decide), HCE.out]; exact if_neg hln
              rw [chkAll_stop HINV.out.clean (by rw [h2]; decide) hlt, h2]
            have HST := hid hst
            clear hst hln cv fv q0 q1
            go_wp2
            go_ret
            exact ⟨ret_int HST.out.symm, bel_sa hbe v _ _⟩
    · obtain rfl : i = n := by omega
      have hbe := HINV.out.below
      by_cases hk : (i : Int) < k
      · have hst : chkAll k t (pidx ps) ce i = 12 := by unfold chkAll; rw [if_pos HINV.out.clean, if_pos hk]
        have HST := hid hst
        clear hst
        go_wp2
        go_ret
        exact ⟨ret_int HST.out.symm, hbe⟩
      · have hst : chkAll k t (pidx ps) ce i = 0 := by unfold chkAll; rw [if_pos HINV.out.clean, if_neg hk]
        have HST := hid hst
        clear hst
        go_wp2
        go_ret
        exact ⟨ret_int HST.out.symm, hbe⟩
/-- the error of a piece's bytes, by the first one's length -/
def alikeL (L0 n : Nat) : Int := if 8192 < n then 3 else if n = L0 then 0 else 10
def alikeE (ps : List (Int × Sl)) (i : Nat) : Int := alikeL (plen' ps 0) (plen' ps i)
theorem alike_any (a : Option Addr) (n c lb : Nat) (m mc : Nat) (w : World) (b o : Nat) (da : Option Addr) (dc L0 : Nat) (hL : w.cell? ⟨lb, 0, none⟩ = some (.slice (some ⟨b, o, none⟩) m mc)) (hm : 0 < m) (h0 : w.cell? ⟨b, o + 1, none⟩ = some (.slice da L0 dc)) :
    Calls Tryz.prog 172 #[.slice a n c, .pointer (some ⟨lb, 0, none⟩)] w fun e w' => e = .returned (.int .i64 (alikeL L0 n)) ∧ w = w' := by
  unfold alikeL
  by_cases h1 : 8192 < n
  · have b1 : decide ((8192 : Int) < (n : Int)) = true := by simp; omega
    rw [if_pos h1]
    go_enter Tryz.func172, Tryz.ntmps172
    go_wp2
    go_ret
    exact ⟨rfl, rfl⟩
  · have b1 : decide ((8192 : Int) < (n : Int)) = false := by simp; omega
    rw [if_neg h1]
    by_cases h : n = L0
    · have b2 : ((n : Int) != (L0 : Int)) = false := by simp [h]
      rw [if_pos h]
      have H := hid h
      clear h
      go_enter Tryz.func172, Tryz.ntmps172
      go_wp2
      go_ret
      exact ⟨rfl, rfl⟩
    · have b2 : ((n : Int) != (L0 : Int)) = true := by simp; omega
      rw [if_neg h]
      have H := hid h
      clear h
      go_enter Tryz.func172, Tryz.ntmps172
      go_wp2
      go_ret
      exact ⟨rfl, rfl⟩

set_option maxRecDepth 100000 in
set_option maxHeartbeats 2000000 in
theorem chkA_any (k t : Int) (a : Option Addr) (n c lb : Nat) (ps : List (Int × Sl)) (w : World) (ht : t ≤ 255) (hp : Ps w (.slice a n c) ps) (hL : w.cell? ⟨lb, 0, none⟩ = some (.slice a n c)) (hlb : lb < w.heap.size) (hn : n ≤ 100000) :
    Calls Tryz.prog 135 #[.int .i64 k, .int .i64 t, .slice a n c, .func (.func 172) #[] #[.pointer (some ⟨lb, 0, none⟩)]] w fun e w' => e = .returned (.int .i64 (chkAll k t (pidx ps) (alikeE ps) n)) ∧ Below w.heap.size w w' := by
  have hnp : n = ps.length := by obtain ⟨_, _, h, _⟩ := hp; simp at h; exact h.2.1
  have HN := hid hnp
  have HP := hid hp
  have HL := hid hL
  clear hnp hp hL
  obtain ⟨ce, hce⟩ : ∃ ce : Nat → Int, ce = alikeE ps := ⟨_, rfl⟩
  have HCE := hid hce
  rw [← hce]
  clear hce
  have h0 : ChkI k t (pidx ps) ce w (w.alloc (.cells Tryz.zeroCells248 248)) 0 := ⟨by rw [zero_flags (pidx ps)]; exact heap_new _ _, (Below.refl _ _).alloc (Nat.le_refl _) _, rfl⟩
  have HINV := hid h0
  clear h0
  go_enter Tryz.func135, Tryz.ntmps135
  go_wp2
  go_loopw [15] (fun iv wr => ∃ i : Nat, i ≤ n ∧ iv = .int .i64 i ∧ Hid (ChkI k t (pidx ps) ce w wr i)) (fun iv _ => n - (intOf iv).toNat)
  case atStart => exact ⟨0, by omega, rfl, HINV⟩
  case round =>
    clear HINV
    obtain ⟨i, hi, rfl, HINV⟩ := hrel
    by_cases hlt : i < n
    · have HPr := HP.out.below HINV.out.below
      obtain ⟨b, o, rfl⟩ : ∃ b o, a = some ⟨b, o, none⟩ := by
        obtain ⟨a', c', h1, h3⟩ := HPr
        obtain ⟨b, o, ha, _⟩ := h3 (by intro e; rw [e] at HN; have := HN.out; simp at this; omega)
        simp at h1
        exact ⟨b, o, h1.1.trans ha⟩
      have hcs := HPr.cells i (by rw [← HN.out]; exact hlt)
      obtain ⟨q0, q1⟩ := hcs
      rw [pidx_at] at q0
      rw [plen_at] at q1
      have hsz : w.heap.size < wr.heap.size := lt_of_heap HINV.out.seen
      clear HPr
      generalize hda : (ps[i]'_).2.1 = da at *
      generalize hdc : (ps[i]'_).2.2.2 = dc at *
      clear hda hdc
      by_cases hbad : pidx ps i < 0 ∨ t ≤ pidx ps i
      · have hst : chkAll k t (pidx ps) ce n = 2 := by
          have h2 : stepE t (pidx ps) ce i = 2 := by unfold stepE; rw [if_pos hbad]
          rw [chkAll_stop HINV.out.clean (by rw [h2]; decide) hlt, h2]
        have HST := hid hst
        clear hst
        have hbe := HINV.out.below
        generalize pidx ps i = v at *
        by_cases h0 : v < 0
        · clear hbad
          go_wp2
          go_ret
          exact ⟨ret_int HST.out.symm, hbe.alloc hbe.size _⟩
        · have h1 : t ≤ v := by omega
          clear hbad
          go_wp2
          go_ret
          exact ⟨ret_int HST.out.symm, hbe.alloc hbe.size _⟩
      · obtain ⟨v, hv⟩ : ∃ v : Nat, pidx ps i = v := ⟨(pidx ps i).toNat, by omega⟩
        have hvt : (v : Int) < t := by omega
        have hv2 : v < 255 := by omega
        have cv := cell_of_heap HINV.out.seen v
        rw [flags_get _ _ _ hv2] at cv
        have fv := free_of_heap HINV.out.seen v
        have hbe := HINV.out.below
        rw [hv] at q0
        have HV := hid hv
        clear hbad hv
        by_cases hoc : occ (pidx ps) i v = true
        · rw [hoc] at cv
          have hst : chkAll k t (pidx ps) ce n = 7 := by
            have h2 : stepE t (pidx ps) ce i = 7 := by unfold stepE; rw [if_neg (by rw [HV.out]; omega), HV.out, if_pos hoc]
            rw [chkAll_stop HINV.out.clean (by rw [h2]; decide) hlt, h2]
          have HST := hid hst
          clear hst hoc
          go_wp2
          go_ret
          exact ⟨ret_int HST.out.symm, hbe.alloc hbe.size _⟩
        · have hoc : occ (pidx ps) i v = false := by simpa using hoc
          rw [hoc] at cv
          have HOC := hid hoc
          clear hoc
          go_wp2_with fail
          have hz := (HP.out.below (bel_sa hbe v (.bool true) (Obj.cells #[.int .i64 v, .slice da (plen' ps i) dc] 68))).cells 0 (by rw [← HN.out]; omega)
          have hz1 := hz.2
          rw [plen_at, Nat.zero_mul, Nat.add_zero] at hz1
          refine (alike_any _ _ _ lb n c _ b o _ _ (plen' ps 0) ?_ (by omega) hz1).mono ?_
          · exact ((bel_sa hbe v _ _).cell (p := ⟨lb, 0, none⟩) hlb).trans HL.out
          clear hz hz1
          rintro e w5 ⟨rfl, rfl⟩
          by_cases hln : alikeL (plen' ps 0) (plen' ps i) = 0
          · have NX := hid (HINV.out.next (Obj.cells #[.int .i64 v, .slice da (plen' ps i) dc] 68) HV.out hv2 (by rw [HV.out]; exact hvt) HOC.out (by rw [HCE.out]; exact hln))
            rw [hln]
            clear hln cv fv q0 q1
            go_wp2
            exact ⟨⟨i + 1, by omega, by go_num, NX⟩, by simp [intOf]; omega⟩
          · have hst : chkAll k t (pidx ps) ce n = alikeL (plen' ps 0) (plen' ps i) := by
              have h2 : stepE t (pidx ps) ce i = alikeL (plen' ps 0) (plen' ps i) := by unfold stepE; rw [if_neg (by rw [HV.out]; omega), HV.out, if_neg (by rw [HOC.out]; decide), HCE.out]; rfl
              rw [chkAll_stop HINV.out.clean (by rw [h2]; exact hln) hlt, h2]
            have HST := hid hst
            have bn : (alikeL (plen' ps 0) (plen' ps i) != 0) = true := by simpa using hln
            clear hst hln cv fv q0 q1
            generalize alikeL (plen' ps 0) (plen' ps i) = ee at *
            go_wp2
            go_ret
            exact ⟨ret_int HST.out.symm, bel_sa hbe v _ _⟩
    · obtain rfl : i = n := by omega
      have hbe := HINV.out.below
      by_cases hk : (i : Int) < k
      · have hst : chkAll k t (pidx ps) ce i = 12 := by unfold chkAll; rw [if_pos HINV.out.clean, if_pos hk]
        have HST := hid hst
        clear hst
        go_wp2
        go_ret
        exact ⟨ret_int HST.out.symm, hbe⟩
      · have hst : chkAll k t (pidx ps) ce i = 0 := by unfold chkAll; rw [if_pos HINV.out.clean, if_neg hk]
        have HST := hid hst
        clear hst
        go_wp2
        go_ret
        exact ⟨ret_int HST.out.symm, hbe⟩

set_option maxRecDepth 100000 in
theorem checkAlike_any (k t : Int) (a : Option Addr) (n c : Nat) (ps : List (Int × Sl)) (w : World) (ht : t ≤ 255) (hp : Ps w (.slice a n c) ps) (hn : n ≤ 100000) :
    Calls Tryz.prog 140 #[.int .i64 k, .int .i64 t, .slice a n c] w fun e w' => e = .returned (.int .i64 (chkAll k t (pidx ps) (alikeE ps) n)) ∧ Below w.heap.size w w' := by
  have HP := hid hp
  clear hp
  have hmf : ∀ (fn : Fn) (first cap : Array Value) (w : World), (Instr.makeFunc fn first cap).run Tryz.prog w = .ok (.func fn first cap) w := fun _ _ _ _ => rfl
  go_enter Tryz.func140, Tryz.ntmps140
  go_wp2_with fail
  refine (chkA_any k t a n c w.heap.size ps _ ht (HP.out.below ((Below.refl _ _).alloc (Nat.le_refl _) _)) (by simp [World.cell?_alloc_new]) (by simp) hn).mono ?_
  rintro e w5 ⟨rfl, hb⟩
  go_wp2
  go_ret
  exact ⟨rfl, ((Below.refl _ _).alloc (Nat.le_refl _) _).trans (hb.mono (by simp))⟩
end Go.Proofs.YtjgiiciniplbnaaGreatDoor

namespace Go.Proofs.YtjgiiciniplbnaaGreatDoor
open Go Go.RowKit
open Go.Maps (Keyed)
set_option linter.unusedVariables false

theorem plainElem_bool_invS {H : Type} {P : Program} {e : TypeId} (he : P.underlying e = some .bool) {v : Value} {z : DataW H × List MemPlace} (h : plainElem P e v = some z) : ∃ a, v = .bool a ∧ z = (.lit (.bool a), []) := by
  unfold plainElem at h
  rw [he] at h
  cases v <;> simp at h
  subst h
  exact ⟨_, rfl, rfl⟩
/-- a map's look-up at elements of type bool -/
theorem wpList_lookup_own_boolS {H : Type} {P : Program} (w : World) {ops : Array Oper} {rest : List Oper} {o : Oper} {a : Act} {Q : Exit → Act → World → Prop}
    (hg : o.guard = none) (m x : Operand) (t : TypeId) (hop : o.op = Op.lookup t m x false)
    (k e : TypeId) (K : Keyed P k) (ht : P.underlying t = some (.map k e)) (he : P.underlying e = some .bool) (hz : (zeroValue e).run P w = .ok (.bool false) w) (b n : Nat) (D : DataW H)
    (hm : a.eval m = .map (some b)) (hown : w.ownsMap P k (plainElem P e) b n D) (key : Value) (kl : Lit) (hx : a.eval x = key) (hkey : keyOf P k key = some kl)
    (hK : ∀ c : Bool, D.atKey kl (.lit (.bool false)) = .lit (.bool c) → wpList P ops Q rest (a.put o.dst (.bool c)) w) :
    wpList P ops Q (o :: rest) a w := by
  refine wpList_plain hg fun K' hK' => ?_
  obtain ⟨v, ps, hrun, hv⟩ := hown.lookup K ht hz (plainElem_bool he false) hkey
  obtain ⟨c, rfl, hc⟩ := plainElem_bool_invS he hv
  simp only [Prod.mk.injEq] at hc
  unfold Oper.wp
  simp [execOp, hop, hm, hx, hrun, Result.andThen]
  exact hK' _ _ (hK c hc.1)

/-- the numbers that have occurred -/
def seenD (idx : Nat → Int) : Nat → DataW Unit
  | 0 => .map []
  | i + 1 => (seenD idx i).put (.int .i64 (idx i)) (.lit (.bool true))
theorem seenD_map (idx : Nat → Int) : ∀ i, Maps.IsMap (seenD idx i)
  | 0 => Maps.isMap_empty
  | i + 1 => (seenD_map idx i).put _ _
theorem seenD_at (idx : Nat → Int) (v : Int) : ∀ i, (seenD idx i).atKey (.int .i64 v) (.lit (.bool false)) = .lit (.bool (occ idx i v))
  | 0 => by rfl
  | i + 1 => by
    unfold seenD
    rw [occ_succ]
    by_cases h : idx i = v
    · subst h
      rw [Maps.atKey_put_same (seenD_map idx i) (show WideAt.IsKeyLit (.int .i64 (idx i)) from trivial)]
      simp
    · rw [Maps.atKey_put_other (by intro e; injection e with _ e2; exact h e2.symm), seenD_at idx v i]
      simp [h]
theorem keyed_intS : Keyed Tryz.prog 3 := Maps.int_keyed Tryz.underlying3
end Go.Proofs.YtjgiiciniplbnaaGreatDoor
