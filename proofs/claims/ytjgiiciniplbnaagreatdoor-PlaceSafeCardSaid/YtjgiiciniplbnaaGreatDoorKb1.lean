/-
  Lists of numbers in the laws: Has of the reference, a copy, the comparison. · A struct with an object in front, in memory. · The structs that the laws of place take as arguments, opened. · append of numbers to a row of one's own: what it leaves as it was. · The mathematics of PlaceMinimal: one peer leaves the list. · What the condition of a row of chapter 2 gives that lists the reference's variable too.
-/
import Derived.Test.YtjgiiciniplbnaaGreatDoorKa7
import Derived.Laws.AppendOwnNone
import Derived.Test.YtjgiiciniplbnaaGreatDoorKa9
import Derived.Test.YtjgiiciniplbnaaGreatDoorKa6
import Derived.Test.YtjgiiciniplbnaaGreatDoorKa3
import Derived.Test.YtjgiiciniplbnaaGreatDoorKa5
namespace Go.Proofs.YtjgiiciniplbnaaGreatDoor
open Go Go.RowKit Go.Lib Go.Sort
set_option linter.unusedVariables false

set_option maxRecDepth 100000 in
set_option maxHeartbeats 4000000 in
theorem Has_any (a : Option Addr) (n c : Nat) (li : List Int) (x : Int) (w : World) (hi : Is w (.slice a n c) li) (hsz : n ≤ 1000000) :
    Calls Tryz.prog 56 #[.slice a n c, .int .i64 x] w fun e w' => e = .returned (.bool (li.contains x)) ∧ w = w' := by
  have HI := hid hi
  have hn := hi.lenP
  have HN := hid hn
  obtain ⟨R, hR⟩ : ∃ R, R = li.contains x := ⟨_, rfl⟩
  rw [← hR]
  have HR := hid hR
  clear hi hn hR
  go_enter Tryz.func56, Tryz.ntmps56
  go_wp2
  go_loopw [5] (fun iv wx => ∃ k : Nat, k ≤ n ∧ iv = .int .i64 k ∧ Hid (wx = w) ∧ Hid (∀ q, q < k → li.getD q 0 ≠ x)) (fun iv _ => n - (intOf iv).toNat)
  case atStart => exact ⟨0, by omega, rfl, hid rfl, hid (fun q h => by omega)⟩
  case round =>
    obtain ⟨k, hk, rfl, HW, HA⟩ := hrel
    have hw := HW.out
    subst hw
    by_cases hkn : k < n
    · as_aux_lemma =>
      have hkn' : (k : Int) < (n : Int) := by omega
      obtain ⟨gb, go, rfl, c1⟩ := HI.out.atP k hkn
      have HST := hid (fun (h : li.getD k 0 ≠ x) => (show ∀ q, q < k + 1 → li.getD q 0 ≠ x from fun q hq => by
        rcases Nat.lt_or_ge q k with h2 | h2
        · exact HA.out q h2
        · obtain rfl : q = k := by omega
          exact h))
      have HC := hid (fun (h : li.getD k 0 = x) => (show R = true from by
        rw [HR.out, List.contains_iff_mem, ← h, List.getD_eq_getElem?_getD, List.getElem?_eq_getElem (by rw [← HN.out]; exact hkn)]
        exact List.getElem_mem _))
      generalize li.getD k 0 = y at *
      by_cases hxy : y = x
      · have e1 : (y == x) = true := by simp [hxy]
        have e2 := HC.out hxy
        subst e2
        clear hxy
        go_wp2
        go_ret
        exact ⟨rfl, by trivial⟩
      · have e1 : (y == x) = false := by simp [hxy]
        have HE := hid hxy
        clear hxy
        go_wp2
        exact ⟨⟨k + 1, by omega, by go_num, hid (by trivial), hid (HST.out HE.out)⟩, by simp [intOf]; omega⟩
    · obtain rfl : k = n := by omega
      have hkn' : ¬ (k : Int) < (k : Int) := by omega
      have e : R = false := by
        rw [HR.out, ← Bool.not_eq_true, List.contains_iff_mem]
        intro h
        obtain ⟨q, hq, e⟩ := List.getElem_of_mem h
        exact HA.out q (by rw [HN.out]; exact hq) (by rw [List.getD_eq_getElem?_getD, List.getElem?_eq_getElem hq]; exact e)
      subst e
      go_wp2
      go_ret
      exact ⟨rfl, by trivial⟩

theorem infoZ : (Tryz.prog.info? 3).map (fun i => (i.zero, i.size, i.bytes)) = some (some (.int .i64 0), 1, 8) := by kernel_rfl
theorem is_of_ownsZ {w : World} {base : Nat} {v : Value} {m : Nat} {l : List Int} (h : w.ownsRow base 3 1 v m (i64z l)) (hl : ∀ n ∈ l, (Lit.int .i64 n).wf = true) : ∃ a c, v = .slice a m c ∧ m = l.length ∧ m ≤ c ∧ Is w v l ∧ (a = none → c = 0) ∧ ∀ ad, a = some ad → base ≤ ad.block ∧ ad.block < w.heap.size := by
  obtain ⟨h1, h2⟩ := h
  have hm : m = l.length := by simpa [i64z] using h1.symm
  rcases h2 with ⟨rfl, h0⟩ | ⟨g, cap, cur, rfl, hg, hh, hc, _, hs, ht⟩
  · have hl0 : l = [] := List.eq_nil_of_length_eq_zero (by omega)
    subst hl0; subst h0
    exact ⟨none, 0, rfl, rfl, Nat.le_refl _, ⟨none, 0, rfl, fun n h => absurd h List.not_mem_nil, fun h => absurd rfl h⟩, fun _ => rfl, fun ad h => by cases h⟩
  · refine ⟨_, cap, rfl, hm, hc, ⟨_, cap, by rw [hm], hl, fun _ => ⟨g, 0, rfl, fun i hi => ?_⟩⟩, fun h => (by cases h), fun ad h => (by cases h; exact ⟨hg, lt_of_heap hh⟩)⟩
    rw [Nat.zero_add, cell_of_heap hh]
    have h3 : (cur.toList.take (m * 1))[i]? = (i64z l)[i]? := by rw [ht]
    rw [List.getElem?_take_of_lt (by omega)] at h3
    rw [← Array.getElem?_toList, h3]
    simp [i64z, List.getElem?_eq_getElem hi]
theorem owns_blockZ {w : World} {base size : Nat} {e : TypeId} {v : Value} {m : Nat} {xs : List Value} (h : w.ownsRow base e size v m xs) : ∀ q, v.ownBlock = some q → base ≤ q := fun q hq => by
  obtain ⟨_, h2⟩ := h
  rcases h2 with ⟨rfl, _⟩ | ⟨g, cap, cur, rfl, hg, _⟩
  · cases hq
  · cases hq; exact hg
/-- append(s, x...) of numbers, s a row of one's own -/
theorem wpList_appendZ {w : World} {ops : Array Oper} {rest : List Oper} {o : Oper} {a : Act} {Q : Exit → Act → World → Prop} (hgd : o.guard = none) (s x : Operand)
    (ho : o.op = .call { callee := .builtin .append, args := #[s, x], argTypes := #[27, 27] }) (g0 : Nat) (v0 : Value) (m0 : Nat) (l0 : List Int) (hs : a.eval s = v0) (hown : w.ownsRow g0 3 1 v0 m0 (i64z l0)) (hm0 : m0 ≤ 1000000)
    (sa : Option Addr) (m c : Nat) (l : List Int) (hx : a.eval x = .slice sa m c) (hb : Is w (.slice sa m c) l) (hnil : sa = none → c = 0) (hmc : m ≤ c) (hm : m ≤ 461168601842)
    (hbase : g0 ≤ w.heap.size)
    (h : ∀ v' w', w'.ownsRow g0 3 1 v' (m0 + m) (i64z (l0 ++ l)) → Below g0 w w' → wpList Tryz.prog ops Q rest (a.put o.dst v') w') :
    wpList Tryz.prog ops Q (o :: rest) a w := by
  obtain ⟨i0, hi, hz0, hz1, hz2⟩ := info_parts infoZ
  have hlen := hb.lenP
  cases sa with
  | none =>
    obtain rfl := hnil rfl
    obtain rfl : m = 0 := by omega
    have hl0 : l = [] := List.eq_nil_of_length_eq_zero (by omega)
    subst hl0
    refine Go.wpList_append_own_none hgd s x _ ho g0 _ i0 1 Tryz.underlying27 hi _ m0 (i64z l0) hs hown hx ?_
    exact h _ _ (by simpa using hown) (Below.refl _ _)
  | some ad =>
    have hnews : ∀ j u, (i64z l)[j]? = some u → w.cell? (ad.add j) = some u := fun j u hj => by
      have hjl : j < l.length := by have := (List.getElem?_eq_some_iff.1 hj).1; simpa [i64z] using this
      obtain ⟨b, o, hv, hc⟩ := hb.atP j (by omega)
      simp only [Option.some.injEq] at hv
      subst hv
      have e : (⟨b, o, none⟩ : Addr).add j = ⟨b, o + j, none⟩ := by unfold Addr.add; split <;> simp_all
      rw [e, hc, ← hj]
      simp [i64z, List.getElem?_eq_getElem hjl, List.getD_eq_getElem?_getD]
    refine Go.wpList_append_own _ hgd s x _ ho g0 3 i0 (.int .i64 0) 1 8 Tryz.underlying27 hi hz0 hz1 hz2 rfl (by decide) _ m0 (i64z l0) hs hown ad m c (i64z l) hx (by simp [i64z]; omega) hnews (fun u hu => by
      unfold i64z at hu
      obtain ⟨y, _, rfl⟩ := List.mem_map.1 hu
      rfl) (by unfold maxLen; omega) (by omega) (by omega) ?_
    intro v' w' hown' hg hn
    exact h v' w' (by rw [show i64z (l0 ++ l) = i64z l0 ++ i64z l from by simp [i64z]]; exact hown') ((Below.refl g0 w).grown hg hbase (owns_blockZ hown))
theorem ownsZ_new {w : World} {g0 : Nat} (hg0 : w.heap[g0]? = some (.cells #[] 3 (0, 0))) : w.ownsRow g0 3 1 (.slice (some ⟨g0, 0, none⟩) 0 0) 0 (i64z []) :=
  ⟨rfl, .inr ⟨g0, 0, #[], rfl, Nat.le_refl _, hg0, Nat.le_refl _, Nat.zero_le _, rfl, rfl⟩⟩
theorem Is.wf {w : World} {v : Value} {l : List Int} (h : Is w v l) : ∀ n ∈ l, (Lit.int .i64 n).wf = true := by
  obtain ⟨_, _, _, h, _⟩ := h
  exact h

set_option maxRecDepth 100000 in
set_option maxHeartbeats 2000000 in
theorem ints_any (a : Option Addr) (n c : Nat) (li : List Int) (w : World) (hi : Is w (.slice a n c) li) (hnil : a = none → c = 0) (hnc : n ≤ c) (hsz : n ≤ 1000000) :
    Calls Tryz.prog 23 #[.slice a n c] w fun e w' => ∃ a' c', e = .returned (.slice a' n c') ∧ Is w' (.slice a' n c') li ∧ n ≤ c' ∧ (a' = none → c' = 0) ∧ (∀ ad, a' = some ad → w.heap.size ≤ ad.block) ∧ Below w.heap.size w w' := by
  obtain ⟨w1, hw1⟩ : ∃ y, y = w.alloc (.cells #[] 3) := ⟨_, rfl⟩
  have hb1 : Below w.heap.size w w1 := by rw [hw1]; exact (Below.refl _ _).alloc (Nat.le_refl _) _
  have hg1 : w1.heap[w.heap.size]? = some (.cells #[] 3 (0, 0)) := by rw [hw1]; exact heap_new _ _
  have HI1 := hid (hi.belowP hb1)
  have HWF := hid hi.wf
  have HB1 := hid hb1
  have HG1 := hid hg1
  have HW1 := hid hw1
  clear hi hb1 hg1 hw1
  go_enter Tryz.func23, Tryz.ntmps23
  go_wp2_with (
    (have h0 := HW1.out)
    (rw [← HW1.out])
    (refine wpList_appendZ (by rfl) (.tmp 3) (.tmp 4) (by rfl) w.heap.size _ 0 [] (by rfl) (ownsZ_new HG1.out) (by omega) a n c li (by rfl) HI1.out hnil hnc (by omega) (Nat.le_of_lt (lt_of_heap HG1.out)) ?_)
    (intro v' w' how hk)
    (obtain ⟨a', c', rfl, hm', hmc, hb', hnil', hbl⟩ := is_of_ownsZ how (by simpa using HWF.out))
    (rw [Nat.zero_add] at hb' hmc ⊢)
    (clear hm'))
  go_ret
  refine ⟨a', c', rfl, by simpa using hb', hmc, hnil', fun ad h => (hbl ad h).1, HB1.out.trans hk⟩
theorem eq_of_getD {l m : List Int} (h : l.length = m.length) (k : ∀ q, q < l.length → l.getD q 0 = m.getD q 0) : l = m := by
  apply List.ext_getElem h
  intro i h1 h2
  have := k i h1
  simpa [List.getD_eq_getElem?_getD, List.getElem?_eq_getElem h1, List.getElem?_eq_getElem h2] using this
set_option maxRecDepth 100000 in
set_option maxHeartbeats 4000000 in
theorem same_any (a : Option Addr) (n c : Nat) (li : List Int) (a2 : Option Addr) (n2 c2 : Nat) (lj : List Int) (w : World) (hi : Is w (.slice a n c) li) (hj : Is w (.slice a2 n2 c2) lj) (hsz : n ≤ 1000000) (hsz2 : n2 ≤ 1000000) :
    Calls Tryz.prog 19 #[.slice a n c, .slice a2 n2 c2] w fun e w' => e = .returned (.bool (decide (li = lj))) ∧ Below w.heap.size w w' := by
  have HI := hid hi
  have HJ := hid hj
  have hn := hi.lenP
  have hn2 := hj.lenP
  have HN := hid hn
  have HN2 := hid hn2
  obtain ⟨R, hR⟩ : ∃ R, R = decide (li = lj) := ⟨_, rfl⟩
  rw [← hR]
  have HR := hid hR
  clear hi hj hn hn2 hR
  by_cases hnn : n = n2
  · subst hnn
    have HEQ := hid (fun (h : ∀ q, q < n → li.getD q 0 = lj.getD q 0) => (show R = true from by
      rw [HR.out]
      exact decide_eq_true (eq_of_getD (HN.out.symm.trans HN2.out) (by rw [← HN.out]; exact h))))
    have HNE := hid (fun (q : Nat) (h : li.getD q 0 ≠ lj.getD q 0) => (show R = false from by
      rw [HR.out]
      exact decide_eq_false (fun e => h (by rw [e]))))
    clear HR HN HN2
    go_enter Tryz.func19, Tryz.ntmps19
    go_wp2
    go_loopw [5] (fun iv wx => ∃ k : Nat, k ≤ n ∧ iv = .int .i64 k ∧ Hid (Below w.heap.size w wx) ∧ Hid (∀ q, q < k → li.getD q 0 = lj.getD q 0)) (fun iv _ => n - (intOf iv).toNat)
    case atStart => exact ⟨0, by omega, rfl, hid (Below.refl _ _), hid (fun q h => by omega)⟩
    case round =>
      obtain ⟨k, hk, rfl, HB, HA⟩ := hrel
      by_cases hkn : k < n
      · as_aux_lemma =>
        have hkn' : (k : Int) < (n : Int) := by omega
        obtain ⟨gb, go, rfl, c1⟩ := (HI.out.belowP HB.out).atP k hkn
        obtain ⟨gb2, go2, rfl, c2⟩ := (HJ.out.belowP HB.out).atP k hkn
        have HST := hid (fun (h : li.getD k 0 = lj.getD k 0) => (show ∀ q, q < k + 1 → li.getD q 0 = lj.getD q 0 from fun q hq => by
          rcases Nat.lt_or_ge q k with h2 | h2
          · exact HA.out q h2
          · obtain rfl : q = k := by omega
            exact h))
        have HC := hid (HNE.out k)
        clear HNE HEQ HA HI HJ
        generalize li.getD k 0 = y at *
        generalize lj.getD k 0 = z at *
        by_cases hxy : y = z
        · have e1 : (y == z) = true := by simp [hxy]
          have e2 : (y != z) = false := by simp [hxy]
          have HE := hid (HST.out hxy)
          clear hxy HST HC
          go_wp2
          go_quiet (fail)
          go_wp2
          exact ⟨⟨k + 1, by omega, by go_num, hid (bel_drewN HB.out _), HE⟩, by simp [intOf]; omega⟩
        · have e1 : (y == z) = false := by simp [hxy]
          have e2 : (y != z) = true := by simp [hxy]
          have e3 := HC.out hxy
          subst e3
          clear hxy HC HST
          go_wp2
          go_quiet (fail)
          go_wp2
          go_ret
          exact ⟨rfl, bel_drewN HB.out _⟩
      · obtain rfl : k = n := by omega
        have hkn' : ¬ (k : Int) < (k : Int) := by omega
        have e := HEQ.out HA.out
        subst e
        go_wp2
        go_ret
        exact ⟨rfl, HB.out⟩
  · have e : R = false := by
      rw [HR.out]
      exact decide_eq_false (fun h => hnn (by rw [HN.out, HN2.out, h]))
    subst e
    have h1 : ((n : Int) == (n2 : Int)) = false := by simp; omega
    have h2 : ((n : Int) != (n2 : Int)) = true := by simp; omega
    have h3 : ¬ (n : Int) = (n2 : Int) := by omega
    clear HR HN HN2 hnn
    go_enter Tryz.func19, Tryz.ntmps19
    go_wp2
    go_ret
    exact ⟨rfl, Below.refl _ _⟩
end Go.Proofs.YtjgiiciniplbnaaGreatDoor

namespace Go.Proofs.YtjgiiciniplbnaaGreatDoor
open Go Go.RowKit Go.Lib Go.Sort
set_option linter.unusedVariables false

theorem infoD (obj : List Nat) (ho : obj.length = 32) : (Tryz.prog.info? 23).map (·.size) = some (u8s obj).length := by
  rw [show (u8s obj).length = 32 from by simp [u8s, ho]]; kernel_rfl
theorem infoDA (obj : List Nat) (ho : obj.length = 32) : (Tryz.prog.info? 23).map (·.size) = some (u8s obj).toArray.size := by
  rw [List.size_toArray]; exact infoD obj ho
theorem zeroDA (obj : List Nat) (ho : obj.length = 32) : ((u8s (List.replicate 32 0)).toArray : Array Value).size = (u8s obj).toArray.size := by
  simp [u8s, ho]
theorem oneDA (obj : List Nat) : (u8s obj).toArray.all (·.oneCell') = true := all_oneCell_toArray (u8s_oneH _)
theorem load_dig {w : World} {b : Nat} {obj : List Nat} (ho : obj.length = 32) (h : OwnD w b obj) : (loadVar 23 ⟨b, 0, none⟩).run Tryz.prog w = .ok (.agg (u8s obj).toArray) w :=
  run_loadVar_mid (P := Tryz.prog) w b 0 23 (u8s obj) _ (range_own h) Tryz.underlying23 rfl (infoD obj ho)
theorem box_cell {w : World} {b : Nat} {obj : List Nat} {vals : List Value} {T : TypeId} (h : w.heap[b]? = some (.cells (u8s obj ++ vals).toArray T (0, 0))) (ho : obj.length = 32) (j : Nat) (v : Value) (hj : vals[j]? = some v) : w.cell? ⟨b, 32 + j, none⟩ = some v := by
  rw [cell_of_heap h, List.getElem?_toArray, List.getElem?_append_right (by simp [u8s, ho])]
  simpa [u8s, ho] using hj
theorem box_dig {w : World} {b : Nat} {obj : List Nat} {vals : List Value} {T : TypeId} (h : w.heap[b]? = some (.cells (u8s obj ++ vals).toArray T (0, 0))) (ho : obj.length = 32) : (loadVar 23 ⟨b, 0, none⟩).run Tryz.prog w = .ok (.agg (u8s obj).toArray) w :=
  run_loadVar_mid (P := Tryz.prog) w b 0 23 (u8s obj) _ (fun j v hj => by
    rw [Nat.zero_add, cell_of_heap h, List.getElem?_toArray, List.getElem?_append_left (by
      have := (List.getElem?_eq_some_iff.1 hj).1
      exact this)]
    exact hj) Tryz.underlying23 rfl (infoD obj ho)
end Go.Proofs.YtjgiiciniplbnaaGreatDoor

namespace Go.Proofs.YtjgiiciniplbnaaGreatDoor
open Go.ChangeShapes Go.WideShapes Go.ChangeAt Go.RowKit
set_option linter.unusedVariables false

theorem chunkD {l od : List Value} {n : Nat} (h : (l.drop 0).take n = od) (i : Nat) (hi : i < n) : l[i]? = od[i]? := by
  rw [← h, List.drop_zero, List.getElem?_take_of_lt hi]
/-- a slice of numbers that came in -/
def In (W : World) (a : Option Addr) (n c : Nat) (li : List Int) : Prop := Is W (.slice a n c) li ∧ n ≤ c ∧ (a = none → c = 0)
section
variable {H : Type} {enc : TypeId × Value → H} {W : World}

set_option maxRecDepth 100000 in
theorem open_live {base : Nat} {v : Value} {d : DataW H} {p : List MemPlace} (hval : Value.okWide Tryz.prog W .any base 93 v) (h : DataW.Trod enc Tryz.prog W 0 (fun _ => true) true 93 v d p) :
    ∃ (od : List Nat) (a0 : Option Addr) (n0 c0 : Nat) (l0 : List Int) (x1 : Int) (x2 : Int), v = .agg (u8s od ++ ([.slice a0 n0 c0, .int .i64 x1, .int .i64 x2] : List Value)).toArray ∧ od.length = 32 ∧ (∀ y ∈ od, y < 256) ∧ In W a0 n0 c0 l0 ∧ (Lit.int .i64 x1).wf = true ∧ (Lit.int .i64 x2).wf = true := by
  obtain ⟨cs, rfl, hsz⟩ := okWide_struct Tryz.underlying93 hval
  rw [show Tryz.prog.cellsOf 93 = 35 from by kernel_rfl] at hsz
  obtain ⟨l⟩ := cs
  have hl : l.length = 35 := by simpa using hsz
  obtain ⟨fuel, hf⟩ := h
  obtain ⟨xs, n, rfl, _, _, hxl, hg⟩ := DataW.trod_struct Tryz.underlying93 hf
  match xs, hxl with
  | [y0, y1, y2, y3], _ =>
  have g0 := hg 0 _ rfl
  have g1 := hg 1 _ rfl
  have g2 := hg 2 _ rfl
  have g3 := hg 3 _ rfl
  obtain ⟨od, f0, ho1, ho2⟩ := open_arr32D g0 (by simp [show Tryz.prog.cellsOf 23 = 32 from by kernel_rfl, Value.cells, hl])
  obtain ⟨a0, n0, c0, l0, f1, w0⟩ := open_is g1
  obtain ⟨x1, f2, _, w1⟩ := DataW.trod_int Tryz.underlying3 g2
  obtain ⟨x2, f3, _, w2⟩ := DataW.trod_int Tryz.underlying3 g3
  have r0 : ∀ i, i < 32 → l[i]? = (u8s od)[i]? := fun i hi => chunkD f0 i hi
  have r1 : l[32]? = some (.slice a0 n0 c0) := chunkL f1
  have r2 : l[33]? = some (.int .i64 x1) := chunkL f2
  have r3 : l[34]? = some (.int .i64 x2) := chunkL f3
  refine ⟨od, a0, n0, c0, l0, x1, x2, ?_, ho1, ho2, w0, w1, w2⟩
  congr 2
  apply List.ext_getElem?
  intro i
  by_cases hi : i < 35
  · by_cases h32 : i < 32
    · rw [r0 i h32, List.getElem?_append_left (by simp [u8s, ho1]; omega)]
    · rw [List.getElem?_append_right (by simp [u8s, ho1]; omega)]
      rcases (show i = 32 ∨ i = 33 ∨ i = 34 from by omega) with rfl | rfl | rfl
      · rw [r1]; simp [u8s, ho1]
      · rw [r2]; simp [u8s, ho1]
      · rw [r3]; simp [u8s, ho1]
  · rw [List.getElem?_eq_none (by omega), List.getElem?_eq_none (by simp [u8s, ho1]; omega)]
set_option maxRecDepth 100000 in
theorem open_settled {base : Nat} {v : Value} {d : DataW H} {p : List MemPlace} (hval : Value.okWide Tryz.prog W .any base 97 v) (h : DataW.Trod enc Tryz.prog W 0 (fun _ => true) true 97 v d p) :
    ∃ (od : List Nat) (a0 : Option Addr) (n0 c0 : Nat) (l0 : List Int) (a1 : Option Addr) (n1 c1 : Nat) (l1 : List Int) (x2 : Int), v = .agg (u8s od ++ ([.slice a0 n0 c0, .slice a1 n1 c1, .int .i64 x2] : List Value)).toArray ∧ od.length = 32 ∧ (∀ y ∈ od, y < 256) ∧ In W a0 n0 c0 l0 ∧ In W a1 n1 c1 l1 ∧ (Lit.int .i64 x2).wf = true := by
  obtain ⟨cs, rfl, hsz⟩ := okWide_struct Tryz.underlying97 hval
  rw [show Tryz.prog.cellsOf 97 = 35 from by kernel_rfl] at hsz
  obtain ⟨l⟩ := cs
  have hl : l.length = 35 := by simpa using hsz
  obtain ⟨fuel, hf⟩ := h
  obtain ⟨xs, n, rfl, _, _, hxl, hg⟩ := DataW.trod_struct Tryz.underlying97 hf
  match xs, hxl with
  | [y0, y1, y2, y3], _ =>
  have g0 := hg 0 _ rfl
  have g1 := hg 1 _ rfl
  have g2 := hg 2 _ rfl
  have g3 := hg 3 _ rfl
  obtain ⟨od, f0, ho1, ho2⟩ := open_arr32D g0 (by simp [show Tryz.prog.cellsOf 23 = 32 from by kernel_rfl, Value.cells, hl])
  obtain ⟨a0, n0, c0, l0, f1, w0⟩ := open_is g1
  obtain ⟨a1, n1, c1, l1, f2, w1⟩ := open_is g2
  obtain ⟨x2, f3, _, w2⟩ := DataW.trod_int Tryz.underlying3 g3
  have r0 : ∀ i, i < 32 → l[i]? = (u8s od)[i]? := fun i hi => chunkD f0 i hi
  have r1 : l[32]? = some (.slice a0 n0 c0) := chunkL f1
  have r2 : l[33]? = some (.slice a1 n1 c1) := chunkL f2
  have r3 : l[34]? = some (.int .i64 x2) := chunkL f3
  refine ⟨od, a0, n0, c0, l0, a1, n1, c1, l1, x2, ?_, ho1, ho2, w0, w1, w2⟩
  congr 2
  apply List.ext_getElem?
  intro i
  by_cases hi : i < 35
  · by_cases h32 : i < 32
    · rw [r0 i h32, List.getElem?_append_left (by simp [u8s, ho1]; omega)]
    · rw [List.getElem?_append_right (by simp [u8s, ho1]; omega)]
      rcases (show i = 32 ∨ i = 33 ∨ i = 34 from by omega) with rfl | rfl | rfl
      · rw [r1]; simp [u8s, ho1]
      · rw [r2]; simp [u8s, ho1]
      · rw [r3]; simp [u8s, ho1]
  · rw [List.getElem?_eq_none (by omega), List.getElem?_eq_none (by simp [u8s, ho1]; omega)]
set_option maxRecDepth 100000 in
theorem open_case {base : Nat} {v : Value} {d : DataW H} {p : List MemPlace} (hval : Value.okWide Tryz.prog W .any base 31 v) (h : DataW.Trod enc Tryz.prog W 0 (fun _ => true) true 31 v d p) :
    ∃ (od : List Nat) (x0 : Int) (x1 : Int) (a2 : Option Addr) (n2 c2 : Nat) (l2 : List Int) (a3 : Option Addr) (n3 c3 : Nat) (l3 : List Int) (b4 : Bool) (b5 : Bool), v = .agg (u8s od ++ ([.int .i64 x0, .int .i64 x1, .slice a2 n2 c2, .slice a3 n3 c3, .bool b4, .bool b5] : List Value)).toArray ∧ od.length = 32 ∧ (∀ y ∈ od, y < 256) ∧ (Lit.int .i64 x0).wf = true ∧ (Lit.int .i64 x1).wf = true ∧ In W a2 n2 c2 l2 ∧ In W a3 n3 c3 l3 := by
  obtain ⟨cs, rfl, hsz⟩ := okWide_struct Tryz.underlying31 hval
  rw [show Tryz.prog.cellsOf 31 = 38 from by kernel_rfl] at hsz
  obtain ⟨l⟩ := cs
  have hl : l.length = 38 := by simpa using hsz
  obtain ⟨fuel, hf⟩ := h
  obtain ⟨xs, n, rfl, _, _, hxl, hg⟩ := DataW.trod_struct Tryz.underlying31 hf
  match xs, hxl with
  | [y0, y1, y2, y3, y4, y5, y6], _ =>
  have g0 := hg 0 _ rfl
  have g1 := hg 1 _ rfl
  have g2 := hg 2 _ rfl
  have g3 := hg 3 _ rfl
  have g4 := hg 4 _ rfl
  have g5 := hg 5 _ rfl
  have g6 := hg 6 _ rfl
  obtain ⟨od, f0, ho1, ho2⟩ := open_arr32D g0 (by simp [show Tryz.prog.cellsOf 23 = 32 from by kernel_rfl, Value.cells, hl])
  obtain ⟨x0, f1, _, w0⟩ := DataW.trod_int Tryz.underlying3 g1
  obtain ⟨x1, f2, _, w1⟩ := DataW.trod_int Tryz.underlying3 g2
  obtain ⟨a2, n2, c2, l2, f3, w2⟩ := open_is g3
  obtain ⟨a3, n3, c3, l3, f4, w3⟩ := open_is g4
  obtain ⟨b4, f5, _⟩ := DataW.trod_bool Tryz.underlying4 g5
  obtain ⟨b5, f6, _⟩ := DataW.trod_bool Tryz.underlying4 g6
  have r0 : ∀ i, i < 32 → l[i]? = (u8s od)[i]? := fun i hi => chunkD f0 i hi
  have r1 : l[32]? = some (.int .i64 x0) := chunkL f1
  have r2 : l[33]? = some (.int .i64 x1) := chunkL f2
  have r3 : l[34]? = some (.slice a2 n2 c2) := chunkL f3
  have r4 : l[35]? = some (.slice a3 n3 c3) := chunkL f4
  have r5 : l[36]? = some (.bool b4) := chunkL f5
  have r6 : l[37]? = some (.bool b5) := chunkL f6
  refine ⟨od, x0, x1, a2, n2, c2, l2, a3, n3, c3, l3, b4, b5, ?_, ho1, ho2, w0, w1, w2, w3⟩
  congr 2
  apply List.ext_getElem?
  intro i
  by_cases hi : i < 38
  · by_cases h32 : i < 32
    · rw [r0 i h32, List.getElem?_append_left (by simp [u8s, ho1]; omega)]
    · rw [List.getElem?_append_right (by simp [u8s, ho1]; omega)]
      rcases (show i = 32 ∨ i = 33 ∨ i = 34 ∨ i = 35 ∨ i = 36 ∨ i = 37 from by omega) with rfl | rfl | rfl | rfl | rfl | rfl
      · rw [r1]; simp [u8s, ho1]
      · rw [r2]; simp [u8s, ho1]
      · rw [r3]; simp [u8s, ho1]
      · rw [r4]; simp [u8s, ho1]
      · rw [r5]; simp [u8s, ho1]
      · rw [r6]; simp [u8s, ho1]
  · rw [List.getElem?_eq_none (by omega), List.getElem?_eq_none (by simp [u8s, ho1]; omega)]
set_option maxRecDepth 100000 in
theorem open_lease {base : Nat} {v : Value} {d : DataW H} {p : List MemPlace} (hval : Value.okWide Tryz.prog W .any base 111 v) (h : DataW.Trod enc Tryz.prog W 0 (fun _ => true) true 111 v d p) :
    ∃ (od : List Nat) (x0 : Int) (x1 : Int) (x2 : Int) (x3 : Int), v = .agg (u8s od ++ ([.int .i64 x0, .int .i64 x1, .int .u64 x2, .int .u64 x3] : List Value)).toArray ∧ od.length = 32 ∧ (∀ y ∈ od, y < 256) ∧ (Lit.int .i64 x0).wf = true ∧ (Lit.int .i64 x1).wf = true ∧ (Lit.int .u64 x2).wf = true ∧ (Lit.int .u64 x3).wf = true := by
  obtain ⟨cs, rfl, hsz⟩ := okWide_struct Tryz.underlying111 hval
  rw [show Tryz.prog.cellsOf 111 = 36 from by kernel_rfl] at hsz
  obtain ⟨l⟩ := cs
  have hl : l.length = 36 := by simpa using hsz
  obtain ⟨fuel, hf⟩ := h
  obtain ⟨xs, n, rfl, _, _, hxl, hg⟩ := DataW.trod_struct Tryz.underlying111 hf
  match xs, hxl with
  | [y0, y1, y2, y3, y4], _ =>
  have g0 := hg 0 _ rfl
  have g1 := hg 1 _ rfl
  have g2 := hg 2 _ rfl
  have g3 := hg 3 _ rfl
  have g4 := hg 4 _ rfl
  obtain ⟨od, f0, ho1, ho2⟩ := open_arr32D g0 (by simp [show Tryz.prog.cellsOf 23 = 32 from by kernel_rfl, Value.cells, hl])
  obtain ⟨x0, f1, _, w0⟩ := DataW.trod_int Tryz.underlying3 g1
  obtain ⟨x1, f2, _, w1⟩ := DataW.trod_int Tryz.underlying3 g2
  obtain ⟨x2, f3, _, w2⟩ := DataW.trod_int Tryz.underlying43 g3
  obtain ⟨x3, f4, _, w3⟩ := DataW.trod_int Tryz.underlying43 g4
  have r0 : ∀ i, i < 32 → l[i]? = (u8s od)[i]? := fun i hi => chunkD f0 i hi
  have r1 : l[32]? = some (.int .i64 x0) := chunkL f1
  have r2 : l[33]? = some (.int .i64 x1) := chunkL f2
  have r3 : l[34]? = some (.int .u64 x2) := chunkL f3
  have r4 : l[35]? = some (.int .u64 x3) := chunkL f4
  refine ⟨od, x0, x1, x2, x3, ?_, ho1, ho2, w0, w1, w2, w3⟩
  congr 2
  apply List.ext_getElem?
  intro i
  by_cases hi : i < 36
  · by_cases h32 : i < 32
    · rw [r0 i h32, List.getElem?_append_left (by simp [u8s, ho1]; omega)]
    · rw [List.getElem?_append_right (by simp [u8s, ho1]; omega)]
      rcases (show i = 32 ∨ i = 33 ∨ i = 34 ∨ i = 35 from by omega) with rfl | rfl | rfl | rfl
      · rw [r1]; simp [u8s, ho1]
      · rw [r2]; simp [u8s, ho1]
      · rw [r3]; simp [u8s, ho1]
      · rw [r4]; simp [u8s, ho1]
  · rw [List.getElem?_eq_none (by omega), List.getElem?_eq_none (by simp [u8s, ho1]; omega)]
end
end Go.Proofs.YtjgiiciniplbnaaGreatDoor

namespace Go.Proofs.YtjgiiciniplbnaaGreatDoor
open Go Go.RowKit Go.Lib Go.Sort
set_option linter.unusedVariables false

theorem wp_appendG {w : World} {o : Oper} {a : Act} {K : Act → World → Prop} {Q : Exit → Act → World → Prop} (s x : Operand)
    (ho : o.op = .call { callee := .builtin .append, args := #[s, x], argTypes := #[27, 27] }) (g0 : Nat) (v0 : Value) (m0 : Nat) (l0 : List Int) (hs : a.eval s = v0) (hown : w.ownsRow g0 3 1 v0 m0 (i64z l0)) (hm0 : m0 ≤ 1000000)
    (sa : Option Addr) (m c : Nat) (l : List Int) (hx : a.eval x = .slice sa m c) (hb : Is w (.slice sa m c) l) (hnil : sa = none → c = 0) (hmc : m ≤ c) (hm : m ≤ 461168601842) (hbase : g0 ≤ w.heap.size)
    (h : ∀ v' w', w'.ownsRow g0 3 1 v' (m0 + m) (i64z (l0 ++ l)) → w.grownBy w' v0.ownBlock → K (a.put o.dst v') w') :
    Oper.wp Tryz.prog o a w K Q := by
  obtain ⟨i0, hi, hz0, hz1, hz2⟩ := info_parts infoZ
  have hlen := hb.lenP
  cases sa with
  | none =>
    obtain rfl := hnil rfl
    obtain rfl : m = 0 := by omega
    have hl0 : l = [] := List.eq_nil_of_length_eq_zero (by omega)
    subst hl0
    have hrun := run_append_owned_none (P := Tryz.prog) (w := w) g0 27 o.type 3 i0 1 Tryz.underlying27 hi v0 m0 (i64z l0) hown
    unfold Oper.wp
    simp [execOp, ho, resolve, invoke, builtin, hs, hx, hrun, Result.andThen]
    exact h _ _ (by simpa using hown) ⟨rfl, rfl, rfl, Nat.le_refl _, fun _ _ _ => rfl⟩
  | some ad =>
    have hnews : ∀ j u, (i64z l)[j]? = some u → w.cell? (ad.add j) = some u := fun j u hj => by
      have hjl : j < l.length := by have := (List.getElem?_eq_some_iff.1 hj).1; simpa [i64z] using this
      obtain ⟨b, o, hv, hc⟩ := hb.atP j (by omega)
      simp only [Option.some.injEq] at hv
      subst hv
      have e : (⟨b, o, none⟩ : Addr).add j = ⟨b, o + j, none⟩ := by unfold Addr.add; split <;> simp_all
      rw [e, hc, ← hj]
      simp [i64z, List.getElem?_eq_getElem hjl, List.getD_eq_getElem?_getD]
    refine wp_append_own w s x _ ho g0 3 i0 (.int .i64 0) 1 8 Tryz.underlying27 hi hz0 hz1 hz2 rfl (by decide) _ m0 (i64z l0) hs hown ad m c (i64z l) hx (by simp [i64z]; omega) hnews (fun u hu => by
      unfold i64z at hu
      obtain ⟨y, _, rfl⟩ := List.mem_map.1 hu
      rfl) (by unfold maxLen; omega) (by omega) (by omega) ?_
    intro v' w' hown' hg _
    exact h v' w' (by rw [show i64z (l0 ++ l) = i64z l0 ++ i64z l from by simp [i64z]]; exact hown') hg
theorem step_appendG {ops : Array Oper} {w : World} {o : Oper} {a : Act} {K : Act → World → Prop} {Q : Exit → Act → World → Prop} {E : Prop} (hgd : o.guard = none) (s x : Operand)
    (ho : o.op = .call { callee := .builtin .append, args := #[s, x], argTypes := #[27, 27] }) (g0 : Nat) (v0 : Value) (m0 : Nat) (l0 : List Int) (hs : a.eval s = v0) (hown : w.ownsRow g0 3 1 v0 m0 (i64z l0)) (hm0 : m0 ≤ 1000000)
    (sa : Option Addr) (m c : Nat) (l : List Int) (hx : a.eval x = .slice sa m c) (hb : Is w (.slice sa m c) l) (hnil : sa = none → c = 0) (hmc : m ≤ c) (hm : m ≤ 461168601842) (hbase : g0 ≤ w.heap.size)
    (h : ∀ v' w', w'.ownsRow g0 3 1 v' (m0 + m) (i64z (l0 ++ l)) → w.grownBy w' v0.ownBlock → K (a.put o.dst v') w') :
    if Region.wanted o (yielded ops a.tmps) = true then Oper.wp Tryz.prog o a w K Q else E := by
  rw [if_pos (by simp [Region.wanted, hgd])]
  exact wp_appendG s x ho g0 v0 m0 l0 hs hown hm0 sa m c l hx hb hnil hmc hm hbase h
theorem wpList_appendG {w : World} {ops : Array Oper} {rest : List Oper} {o : Oper} {a : Act} {Q : Exit → Act → World → Prop} (hgd : o.guard = none) (s x : Operand)
    (ho : o.op = .call { callee := .builtin .append, args := #[s, x], argTypes := #[27, 27] }) (g0 : Nat) (v0 : Value) (m0 : Nat) (l0 : List Int) (hs : a.eval s = v0) (hown : w.ownsRow g0 3 1 v0 m0 (i64z l0)) (hm0 : m0 ≤ 1000000)
    (sa : Option Addr) (m c : Nat) (l : List Int) (hx : a.eval x = .slice sa m c) (hb : Is w (.slice sa m c) l) (hnil : sa = none → c = 0) (hmc : m ≤ c) (hm : m ≤ 461168601842) (hbase : g0 ≤ w.heap.size)
    (h : ∀ v' w', w'.ownsRow g0 3 1 v' (m0 + m) (i64z (l0 ++ l)) → w.grownBy w' v0.ownBlock → wpList Tryz.prog ops Q rest (a.put o.dst v') w') :
    wpList Tryz.prog ops Q (o :: rest) a w :=
  wpList_plain hgd fun K hK => wp_appendG s x ho g0 v0 m0 l0 hs hown hm0 sa m c l hx hb hnil hmc hm hbase fun v' w' h1 h2 => hK _ _ (h v' w' h1 h2)
/-- numbers in another block than the row that grew -/
theorem Is.grown {w w' : World} {a : Option Addr} {n c : Nat} {l : List Int} {row : Option Nat} (h : Is w (.slice a n c) l) (g : w.grownBy w' row) (hne : ∀ ad, a = some ad → some ad.block ≠ row) : Is w' (.slice a n c) l := by
  obtain ⟨a', c', h1, h2, h3⟩ := h
  simp only [Value.slice.injEq] at h1
  obtain ⟨rfl, rfl, rfl⟩ := h1
  refine ⟨a, c, rfl, h2, fun hl => ?_⟩
  obtain ⟨b, o, ha, hc⟩ := h3 hl
  refine ⟨b, o, ha, fun i hi => ?_⟩
  have hi2 := hc i hi
  rw [World.cell?_of_block (g.block b (World.block_lt_of_cell? _ _ hi2) (hne _ ha))]
  exact hi2
end Go.Proofs.YtjgiiciniplbnaaGreatDoor

namespace Go.Proofs.YtjgiiciniplbnaaGreatDoor
open Go Go.RowKit Go.Lib Go.Sort
set_option linter.unusedVariables false

theorem uniq_sorted {α : Type} (R : α → α → Prop) (ir : ∀ x y, R x y → R y x → False) : ∀ l m : List α, l.Pairwise R → m.Pairwise R → (∀ x, x ∈ l ↔ x ∈ m) → l = m
  | [], [], _, _, _ => rfl
  | [], y :: m, _, _, h => absurd ((h y).2 (by simp)) (by simp)
  | x :: l, [], _, _, h => absurd ((h x).1 (by simp)) (by simp)
  | x :: l, y :: m, hl, hm, h => by
    rw [List.pairwise_cons] at hl hm
    have hxy : x = y := by
      have h1 := (h x).1 (by simp)
      have h2 := (h y).2 (by simp)
      rw [List.mem_cons] at h1 h2
      rcases h1 with h1 | h1
      · exact h1
      · rcases h2 with h2 | h2
        · exact h2.symm
        · exact (ir _ _ (hl.1 _ h2) (hm.1 _ h1)).elim
    subst hxy
    rw [uniq_sorted R ir l m hl.2 hm.2 (fun z => ⟨fun hz => by
      have := (h z).1 (by simp [hz])
      rw [List.mem_cons] at this
      rcases this with rfl | this
      · exact (ir _ _ (hl.1 _ hz) (hl.1 _ hz)).elim
      · exact this, fun hz => by
      have := (h z).2 (by simp [hz])
      rw [List.mem_cons] at this
      rcases this with rfl | this
      · exact (ir _ _ (hm.1 _ hz) (hm.1 _ hz)).elim
      · exact this⟩)]
theorem take_filter_mem {α : Type} (p : α → Bool) : ∀ (l : List α) (n : Nat) (x : α), x ∈ l.take n → p x = true → x ∈ (l.filter p).take n
  | [], n, x, h, _ => by simp at h
  | y :: l, 0, x, h, _ => by simp at h
  | y :: l, n + 1, x, h, hp => by
    rw [List.take_succ_cons, List.mem_cons] at h
    by_cases hy : p y = true
    · rw [List.filter_cons_of_pos hy, List.take_succ_cons, List.mem_cons]
      rcases h with rfl | h
      · exact .inl rfl
      · exact .inr (take_filter_mem p l n x h hp)
    · rw [List.filter_cons_of_neg hy]
      rcases h with rfl | h
      · exact absurd hp hy
      · have := take_filter_mem p l n x h hp
        exact (List.take_subset_take_left _ (Nat.le_succ n)) this
/-- with one removed: at most one is added, and then the removed was there -/
theorem added_one (g : Nat) : ∀ (l : List Nat) (n : Nat), l.Nodup →
    (((l.filter (fun x => x != g)).take n).filter (fun x => !(l.take n).contains x)).length ≤ (if (l.take n).contains g then 1 else 0)
  | [], n, _ => by simp
  | y :: l, 0, _ => by simp
  | y :: l, n + 1, hn => by
    rw [List.nodup_cons] at hn
    by_cases hy : y = g
    · subst hy
      have h1 : (y :: l).filter (fun x => x != y) = l := by
        rw [List.filter_cons_of_neg (by simp), List.filter_eq_self.2 (fun x hx => by simp; rintro rfl; exact hn.1 hx)]
      rw [h1, List.take_succ_cons]
      have h2 : ((y :: l.take n).contains y) = true := by simp
      rw [h2, if_pos rfl]
      have h3 : (l.take (n + 1)).filter (fun x => !(y :: l.take n).contains x) = ((l.drop n).take 1).filter (fun x => !(y :: l.take n).contains x) := by
        rw [show l.take (n + 1) = l.take n ++ (l.drop n).take 1 by rw [List.take_add], List.filter_append]
        rw [List.filter_eq_nil_iff.2 (by intro x hx; simp; exact fun _ => hx)]
        simp
      rw [h3]
      exact Nat.le_trans (List.length_filter_le _ _) (by simp; omega)
    · rw [List.filter_cons_of_pos (by simpa using hy), List.take_succ_cons, List.take_succ_cons]
      have ih := added_one g l n hn.2
      have e : ((y :: l.take n).contains g) = (l.take n).contains g := by
        rw [Bool.eq_iff_iff, List.contains_iff_mem, List.contains_iff_mem, List.mem_cons]
        exact ⟨fun h => h.resolve_left (fun h => hy h.symm), .inr⟩
      rw [e, List.filter_cons_of_neg (by simp)]
      refine Nat.le_trans ?_ ih
      apply List.Sublist.length_le
      have : ∀ (m : List Nat), m.filter (fun x => !(y :: l.take n).contains x) = (m.filter (fun x => !(l.take n).contains x)).filter (fun x => x != y) := fun m => by
        rw [List.filter_filter]
        apply List.filter_congr
        intro x _
        by_cases hxy : x = y
        · subst hxy; simp
        · simp [hxy]
      rw [this]
      exact List.filter_sublist

/-- the number that leaves, among the peers -/
def goneN (G : Int) : Nat := if 0 ≤ G then G.toNat else 1000
theorem gone_ne (G : Int) (x : Nat) (hx : x < 16) : ((x : Int) != G) = (x != goneN G) := by
  unfold goneN
  rw [Bool.eq_iff_iff, bne_iff_ne, bne_iff_ne]
  split <;> omega
/-- the list without the one that leaves -/
def lessL (l : List Int) (G : Int) : List Int := l.filter (· != G)
theorem setL_less (l : List Int) (G : Int) (i : Nat) (hi : i < 16) : setL (lessL l G) i = (setL l i && (i != goneN G)) := by
  unfold setL lessL
  rw [← gone_ne G i hi, Bool.eq_iff_iff, Bool.and_eq_true, List.contains_iff_mem, List.contains_iff_mem, List.mem_filter]
theorem rkd_less (obj : List Nat) (l : List Int) (G : Int) : rkd obj (setL (lessL l G)) = (rkd obj (setL l)).filter (fun x => x != goneN G) := by
  refine uniq_sorted (fun x y => cfN obj x y < 0) (fun x y h k => ?_) _ _ (rkd_sorted _ _) ((rkd_sorted _ _).filter _) (fun x => ?_)
  · have := cfN_neg obj x y
    omega
  · rw [rkd_mem, List.mem_filter, rkd_mem]
    constructor
    · rintro ⟨h1, h2⟩
      rw [setL_less l G x h1, Bool.and_eq_true] at h2
      exact ⟨⟨h1, h2.1⟩, h2.2⟩
    · rintro ⟨⟨h1, h2⟩, h3⟩
      refine ⟨h1, ?_⟩
      rw [setL_less l G x h1, h2, h3]
      rfl
theorem take_chN {α : Type} (l : List α) (N : Int) (h : 0 ≤ N) : l.take (chN N l.length) = l.take N.toNat := by
  unfold chN
  rcases Nat.lt_or_ge N.toNat l.length with h1 | h1
  · congr 1
    omega
  · rw [List.take_of_length_le h1, List.take_of_length_le (by omega)]
theorem chosen_less (obj : List Nat) (l : List Int) (G N : Int) (hN : 0 ≤ N) : chosenL obj (lessL l G) N = ((rkd obj (setL l)).filter (fun x => x != goneN G)).take N.toNat := by
  unfold chosenL
  rw [rkd_less, take_chN _ N hN]
theorem chosen_take (obj : List Nat) (l : List Int) (N : Int) (hN : 0 ≤ N) : chosenL obj l N = (rkd obj (setL l)).take N.toNat := by
  unfold chosenL
  rw [take_chN _ N hN]
theorem chosen_lt (obj : List Nat) (l : List Int) (N : Int) : ∀ x ∈ chosenL obj l N, x < 16 ∧ l.contains (x : Int) = true := fun x hx => (rkd_mem obj (setL l) x).1 (List.mem_of_mem_take hx)
/-- who was chosen and did not leave is chosen -/
theorem stays (obj : List Nat) (l : List Int) (G N : Int) (hN : 0 ≤ N) (x : Nat) (hx : x ∈ chosenL obj l N) (hg : (x : Int) ≠ G) : ((chosenL obj (lessL l G) N).map Int.ofNat).contains (x : Int) = true := by
  rw [mem_ofNat, List.contains_iff_mem, chosen_less _ _ _ _ hN]
  have h16 := (chosen_lt obj l N x hx).1
  rw [chosen_take _ _ _ hN] at hx
  exact take_filter_mem _ _ _ _ hx (by rw [← gone_ne G x h16]; simpa using hg)
theorem of_less (obj : List Nat) (l : List Int) (G N : Int) (x : Nat) (hx : x ∈ chosenL obj (lessL l G) N) : l.contains (x : Int) = true ∧ (x : Int) ≠ G := by
  have h := (chosen_lt obj _ N x hx).2
  unfold lessL at h
  rw [List.contains_iff_mem, List.mem_filter] at h
  exact ⟨by rw [List.contains_iff_mem]; exact h.1, by simpa using h.2⟩
/-- the numbers of a list that are not in another -/
def newsOf (B A : List Nat) : Nat := (A.filter fun (x : Nat) => !(B.map Int.ofNat).contains (x : Int)).length
theorem newsOf_eq (B A : List Nat) : newsOf B A = (A.filter fun x => !B.contains x).length := by
  unfold newsOf
  congr 1
  apply List.filter_congr
  intro x _
  rw [mem_ofNat]
theorem news_one (obj : List Nat) (l : List Int) (G N : Int) (hN : 0 ≤ N) : newsOf (chosenL obj l N) (chosenL obj (lessL l G) N) = 0 ∨ (newsOf (chosenL obj l N) (chosenL obj (lessL l G) N) = 1 ∧ ((chosenL obj l N).map Int.ofNat).contains G = true) := by
  have h := added_one (goneN G) (rkd obj (setL l)) N.toNat (rkd_nodup _ _)
  rw [← chosen_less _ _ _ _ hN, ← chosen_take _ _ _ hN, ← newsOf_eq] at h
  by_cases hc : (chosenL obj l N).contains (goneN G) = true
  · rw [if_pos hc] at h
    rcases Nat.eq_zero_or_pos (newsOf (chosenL obj l N) (chosenL obj (lessL l G) N)) with h0 | h0
    · exact .inl h0
    · refine .inr ⟨by omega, ?_⟩
      rw [List.contains_iff_mem] at hc
      have h16 := (chosen_lt obj l N _ hc).1
      have hg : ((goneN G : Nat) : Int) = G := by
        unfold goneN at h16 ⊢
        split at h16
        · rw [if_pos (by assumption)]; omega
        · omega
      have h2 := mem_ofNat (chosenL obj l N) (goneN G)
      rw [hg] at h2
      rw [h2, List.contains_iff_mem]
      exact hc
  · rw [if_neg hc] at h
    exact .inl (by omega)
theorem news_succ (B A : List Nat) (k : Nat) (hk : k < A.length) : newsOf B (A.take (k + 1)) = newsOf B (A.take k) + (if (B.map Int.ofNat).contains ((A.map Int.ofNat).getD k 0) then 0 else 1) := by
  unfold newsOf
  rw [List.take_succ_eq_append_getElem hk, List.filter_append, List.length_append]
  congr 1
  have e : (A.map Int.ofNat).getD k 0 = ((A[k] : Nat) : Int) := by
    rw [List.getD_eq_getElem?_getD, List.getElem?_eq_getElem (by simpa using hk), List.getElem_map]
    rfl
  rw [e]
  cases h : (B.map Int.ofNat).contains ((A[k] : Nat) : Int)
  · rw [List.filter_cons_of_pos (by simpa using h)]
    simp
  · rw [List.filter_cons_of_neg (by simpa using h)]
    simp
theorem getD_ofNat (A : List Nat) (k : Nat) (hk : k < A.length) : ∃ x ∈ A, (A.map Int.ofNat).getD k 0 = (x : Int) := by
  refine ⟨A[k], List.getElem_mem _, ?_⟩
  rw [List.getD_eq_getElem?_getD, List.getElem?_eq_getElem (by simpa using hk), List.getElem_map]
  rfl
theorem chosen_back (obj : List Nat) (l : List Int) (G N : Int) : chosenL obj (lessL l G ++ l) N = chosenL obj l N := by
  have h : rkd obj (setL (lessL l G ++ l)) = rkd obj (setL l) := rkd_congr fun i hi => by
    unfold setL lessL
    rw [Bool.eq_iff_iff, List.contains_iff_mem, List.contains_iff_mem, List.mem_append, List.mem_filter]
    constructor
    · rintro (h | h)
      · exact h.1
      · exact h
    · exact .inr
  unfold chosenL
  rw [h]
theorem less_succ (l : List Int) (G : Int) (k : Nat) (hk : k < l.length) : lessL (l.take (k + 1)) G = if l.getD k 0 = G then lessL (l.take k) G else lessL (l.take k) G ++ [l.getD k 0] := by
  have e : l.getD k 0 = l[k] := by rw [List.getD_eq_getElem?_getD, List.getElem?_eq_getElem hk]; rfl
  unfold lessL
  rw [List.take_succ_eq_append_getElem hk, List.filter_append, e]
  by_cases h : l[k] = G
  · rw [if_pos h, List.filter_cons_of_neg (by simpa using h)]
    simp
  · rw [if_neg h, List.filter_cons_of_pos (by simpa using h)]
    simp
end Go.Proofs.YtjgiiciniplbnaaGreatDoor

namespace Go.Proofs.YtjgiiciniplbnaaGreatDoor
open Go Go.RowKit Go.ChangeShapes Go.WideShapes Go.ChangeAt

abbrev laidB : List (String × DataW Unit) := [("stolon/stolonref02.rounds", Rows.laid_stolon_stolonref02_rounds), ("stolon/digest.start", Rows.laid_stolon_digest_start), ("stolon/digest.roundConstants", Rows.laid_stolon_digest_roundConstants)]
theorem gRef : Tryz.prog.globalNamed "stolon/stolonref02.rounds" = some 0 := by kernel_rfl
theorem tRef : (Tryz.prog.globals[0]?).map (·.type) = some 179 := by kernel_rfl
theorem dRef : Rows.laid_stolon_stolonref02_rounds (H := Unit) = Lib.tabData .u32 (shaRound.map fun (n : Nat) => (n : Int)) := by kernel_rfl
theorem both_of_laid {W : World} (h : laidMetH Tryz.prog laidB W) : Vars W shaRound shaStart ∧ Rnds W := by
  rw [MakeChecks.laidMetH_plain _ _ _ (by kernel_rfl)] at h
  have h0 : laidMet Tryz.prog (("stolon/stolonref02.rounds", Lib.tabData .u32 (shaRound.map fun (n : Nat) => (n : Int))) :: ("stolon/digest.start", Lib.tabData .u32 (shaStart.map fun (n : Nat) => (n : Int))) :: ("stolon/digest.roundConstants", Lib.tabData .u32 (shaRound.map fun (n : Nat) => (n : Int))) :: []) W := by
    rw [← dStart, ← dRound]
    exact h
  have h1 := h0.tail
  have h2 := h1.tail
  have r0 := range_of_tab (Lib.tabIs_of_head gRef tRef Tryz.underlying179 Tryz.underlying144 cU32 cRound h0) gRef
  have r1 := range_of_tab (Lib.tabIs_of_head gStart tStart Tryz.underlying180 Tryz.underlying144 cU32 cStart h1) gStart
  have r2 := range_of_tab (Lib.tabIs_of_head gRound tRound Tryz.underlying179 Tryz.underlying144 cU32 cRound h2) gRound
  have b1 : ∀ x ∈ shaStart, x < 4294967296 := by decide
  have b2 : ∀ x ∈ shaRound, x < 4294967296 := by decide
  have hg : ∀ (l : List Nat), (∀ x ∈ l, x < 4294967296) → ∀ i, l.getD i 0 < 4294967296 := fun l hl i => by
    rw [List.getD_eq_getElem?_getD]
    by_cases h : i < l.length
    · rw [List.getElem?_eq_getElem h]; exact hl _ (List.getElem_mem _)
    · rw [List.getElem?_eq_none (by omega)]; decide
  have hc := r2 0 (.int .u32 ((shaRound.getD 0 0 : Nat) : Int)) (by rfl)
  have hc0 := r0 0 (.int .u32 ((shaRound.getD 0 0 : Nat) : Int)) (by rfl)
  exact ⟨⟨r1, r2, World.block_lt_of_cell? _ _ hc, rfl, rfl, hg _ b2, hg _ b1⟩, ⟨r0, World.block_lt_of_cell? _ _ hc0⟩⟩
theorem vars_of_laidB {W : World} (h : laidMetH Tryz.prog laidB W) : Vars W shaRound shaStart := (both_of_laid h).1
theorem rnds_of_laidB {W : World} (h : laidMetH Tryz.prog laidB W) : Rnds W := (both_of_laid h).2
theorem door_metB (os : Os) (args : Array Value) : laidMetH Tryz.prog laidB ((World.doorLaid Tryz.prog 24 os).forCall (fun _ _ => 0) ⟨#[], args, []⟩).memory :=
  laidMetH_of_parts3 (fuel := 8) (laidMet_of_run' 8 (by kernel_rfl) (by kernel_rfl)) (by kernel_rfl) (by kernel_rfl)
end Go.Proofs.YtjgiiciniplbnaaGreatDoor
