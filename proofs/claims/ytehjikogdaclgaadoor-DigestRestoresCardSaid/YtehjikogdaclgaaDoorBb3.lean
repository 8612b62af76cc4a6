/-
  append([]byte{}, s...): a copy of bytes in new memory. · The inner functions of the field over its tables: doubling, mul, inverse, power. · newLagrange: the scales of the places. · weights: the weight of each place in the value at x; bytes.IndexByte over bytes that read as a list. · addScaled: a row of bytes plus a multiple of another one. · newSource and piece: the bytes of any piece from k pieces. · piece: the bytes of any piece from k pieces.
-/
import Derived.Test.YtehjikogdaclgaaDoorBb2
import Derived.Laws.AppendOwnNone
import Derived.Test.YtehjikogdaclgaaDoorBb1
import Derived.Deep.QuietTactic
import Derived.BigQuiet
import Derived.Outline
import Derived.Deep.RegionWith
import Derived.Lib.BytesEntry
import Derived.Deep.RegionHeld3
namespace Go.Proofs.YtehjikogdaclgaaDoor
open Go Go.RowKit

theorem bs_of_owns {w : World} {base : Nat} {v : Value} {m : Nat} {l : List Nat} (h : w.ownsRow base 5 1 v m (u8s l)) (hl : ∀ n ∈ l, n < 256) : ∃ a c, v = .slice a m c ∧ m = l.length ∧ m ≤ c ∧ Bs w v l ∧ ∀ ad, a = some ad → base ≤ ad.block ∧ ad.block < w.heap.size := by
  obtain ⟨h1, h2⟩ := h
  have hm : m = l.length := by simpa [u8s] using h1.symm
  rcases h2 with ⟨rfl, h0⟩ | ⟨g, cap, cur, rfl, hg, hh, hc, _, hs, ht⟩
  · have hl0 : l = [] := List.eq_nil_of_length_eq_zero (by omega)
    subst hl0; subst h0
    exact ⟨none, 0, rfl, rfl, Nat.le_refl _, bs_nil w, fun ad h => by cases h⟩
  · refine ⟨_, cap, rfl, hm, hc, ⟨_, cap, by rw [hm], hl, fun _ => ⟨g, 0, rfl, fun i hi => ?_⟩⟩, fun ad h => by cases h; exact ⟨hg, lt_of_heap hh⟩⟩
    rw [Nat.zero_add, cell_of_heap hh]
    have h3 : (cur.toList.take (m * 1))[i]? = (u8s l)[i]? := by rw [ht]
    rw [List.getElem?_take_of_lt (by omega)] at h3
    rw [← Array.getElem?_toList, h3]
    simp [u8s, List.getElem?_eq_getElem hi]

theorem wpList_clone {w : World} {ops : Array Oper} {rest : List Oper} {o : Oper} {a : Act} {Q : Exit → Act → World → Prop} (hgd : o.guard = none) (s x : Operand)
    (ho : o.op = .call { callee := .builtin .append, args := #[s, x], argTypes := #[22, 22] }) (g0 : Nat) (hs : a.eval s = .slice (some ⟨g0, 0, none⟩) 0 0) (hg0 : w.heap[g0]? = some (.cells #[] 5 (0, 0)))
    (sa : Option Addr) (m c : Nat) (l : List Nat) (hx : a.eval x = .slice sa m c) (hb : Bs w (.slice sa m c) l) (hnil : sa = none → c = 0) (hm : m ≤ 4611686018427)
    (h : ∀ a' c' w', Bs w' (.slice a' m c') l → m ≤ c' → (∀ ad, a' = some ad → g0 ≤ ad.block ∧ ad.block < w'.heap.size) → (a' = none → c' = 0) → Kept g0 w w' → wpList Tryd.prog ops Q rest (a.put o.dst (.slice a' m c')) w') :
    wpList Tryd.prog ops Q (o :: rest) a w := by
  obtain ⟨i0, hi, hz0, hz1, hz2⟩ := info_parts info5
  have hown : w.ownsRow g0 5 1 (.slice (some ⟨g0, 0, none⟩) 0 0) 0 [] := ⟨rfl, .inr ⟨g0, 0, #[], rfl, Nat.le_refl _, hg0, Nat.le_refl _, Nat.zero_le _, rfl, rfl⟩⟩
  have hlt := lt_of_heap hg0
  have hl : ∀ n ∈ l, n < 256 := by obtain ⟨_, _, _, h, _⟩ := hb; exact h
  have hlen := hb.len
  cases sa with
  | none =>
    obtain rfl := hnil rfl
    rcases hb.addr with ⟨h0, _⟩ | ⟨_, b, o, c', hv⟩
    · subst h0
      obtain rfl : m = 0 := hlen
      refine Go.wpList_append_own_none hgd s x _ ho g0 _ i0 1 Tryd.underlying22 hi _ 0 [] hs hown hx ?_
      exact h _ _ _ ⟨_, 0, rfl, fun n hn => absurd hn List.not_mem_nil, fun e => absurd rfl e⟩ (Nat.le_refl _) (fun ad h => by cases h; exact ⟨Nat.le_refl _, hlt⟩) (fun h => by cases h) (Kept.refl _ _)
    · simp at hv
  | some ad =>
    have hnews : ∀ j u, (u8s l)[j]? = some u → w.cell? (ad.add j) = some u := fun j u hj => by
      have hjl : j < l.length := by have := (List.getElem?_eq_some_iff.1 hj).1; simpa [u8s] using this
      rcases hb.addr with ⟨h0, _⟩ | ⟨_, b, o, c', hv⟩
      · rw [h0] at hjl; exact absurd hjl (Nat.not_lt_zero _)
      · simp only [Value.slice.injEq, Option.some.injEq] at hv
        obtain ⟨rfl, _, _⟩ := hv
        have hc := hb.cell j hjl
        have e : (⟨b, o, none⟩ : Addr).add j = ⟨b, o + j, none⟩ := by unfold Addr.add; split <;> simp_all
        rw [e, hc, ← hj]
        simp [u8s, List.getElem?_eq_getElem hjl]
    refine Go.wpList_append_own _ hgd s x _ ho g0 5 i0 (.int .u8 0) 1 1 Tryd.underlying22 hi hz0 hz1 hz2 rfl (by decide) _ 0 [] hs hown ad m c (u8s l) hx (by simp [u8s]; omega) hnews (fun u hu => by
      unfold u8s at hu
      obtain ⟨y, _, rfl⟩ := List.mem_map.1 hu
      rfl) (by unfold maxLen; omega) (by omega) (by omega) ?_
    intro v' w' hown' hg hn
    rw [Nat.zero_add, List.nil_append] at hown'
    obtain ⟨a', c', rfl, hm', hmc, hb', hbl⟩ := bs_of_owns hown' hl
    refine h a' c' w' hb' hmc hbl (fun e => ?_) ⟨hg.os, hg.tape, hg.output, hg.size, fun k hk hkg => hg.block k hk (by intro e; exact hkg (Option.some.inj e))⟩
    subst e
    obtain ⟨_, h2⟩ := hown'
    rcases h2 with ⟨h3, _⟩ | ⟨g, cap, cur, h3, _⟩
    · simp at h3; exact h3.2
    · simp at h3
end Go.Proofs.YtehjikogdaclgaaDoor

namespace Go.Proofs.YtehjikogdaclgaaDoor
open Go.RowKit

theorem ret_int {k : IntKind} {a b : Int} (h : a = b) : Ending.returned (.int k a) = .returned (.int k b) := by rw [h]

theorem and128 (a : Nat) (ha : a < 256) : bits .and .u8 (a : Int) 128 = ((a &&& 128 : Nat) : Int) := u8_and_nat a 128 ha (by omega)
theorem and128_lo : ∀ a : Nat, a < 256 → a < 128 → a &&& 128 = 0 := by decide +kernel
theorem and128_hi : ∀ a : Nat, a < 256 → 128 ≤ a → a &&& 128 = 128 := by decide +kernel

theorem dbl_lo (a : Nat) (h : a < 128) : ((a : Int) * 2) = (Gf.dbl a : Int) := by unfold Gf.dbl; rw [if_pos h]; omega
theorem dbl_hi (a : Nat) (ha : a < 256) (h : ¬ a < 128) : bits .xor .u8 ((a : Int) * 2 % 256) 29 = (Gf.dbl a : Int) := by
  unfold Gf.dbl
  rw [if_neg h, show ((a : Int) * 2 % 256) = ((2 * a - 256 : Nat) : Int) from by omega]
  exact u8_xor_nat _ 29 (by omega) (by omega)
/-- double -/
theorem double_any (a : Nat) (ha : a < 256) (w : World) :
    Calls Tryd.prog 81 #[.int .u8 a] w fun e w' => e = .returned (.int .u8 (Gf.dbl a)) ∧ w = w' := by
  by_cases h : a < 128
  · have h1 : (bits .and .u8 (a : Int) 128 != 0) = false := by rw [and128 a ha, and128_lo a ha h]; rfl
    go_enter Tryd.func81, Tryd.ntmps81
    go_wp2
    go_ret
    exact ⟨ret_int (dbl_lo a h), rfl⟩
  · have h1 : (bits .and .u8 (a : Int) 128 != 0) = true := by rw [and128 a ha, and128_hi a ha (by omega)]; rfl
    go_enter Tryd.func81, Tryd.ntmps81
    go_wp2
    go_ret
    exact ⟨ret_int (dbl_hi a ha h), rfl⟩

theorem mul_pos (b : Nat) (x y : Nat) (hx : x < 256) (hy : y < 256) (x0 : x ≠ 0) (y0 : y ≠ 0) (w : World) (hB : Built w b) :
    Calls Tryd.prog 82 #[.pointer (some ⟨b, 0, none⟩), .int .u8 x, .int .u8 y] w fun e w' => e = .returned (.int .u8 (Gf.tm x y)) ∧ ∃ n, w' = w.drewN n := by
  have c1 := built_log hB x hx x0
  have c2 := built_log hB y hy y0
  have lx := Gf.L_lt x hx
  have ly := Gf.L_lt y hy
  have c3 := built_exp hB (Gf.L x + Gf.L y) (by omega)
  have e1 : ((x : Int) == 0) = false := by simp; omega
  have e2 : ((y : Int) == 0) = false := by simp; omega
  go_enter Tryd.func82, Tryd.ntmps82
  go_wp2
  go_quiet (fail)
  go_wp2
  go_ret
  exact ⟨ret_int (by rw [Gf.tm_log x y hx hy x0 y0]), ⟨nq, rfl⟩⟩

/-- mul -/
theorem mul_any (b : Nat) (x y : Nat) (hx : x < 256) (hy : y < 256) (w : World) (hB : Built w b) :
    Calls Tryd.prog 82 #[.pointer (some ⟨b, 0, none⟩), .int .u8 x, .int .u8 y] w fun e w' => e = .returned (.int .u8 (Gf.tm x y)) ∧ ∃ n, w' = w.drewN n := by
  by_cases x0 : x = 0
  · subst x0
    rw [Gf.tm_zero_left]
    have e1 : (((0 : Nat) : Int) == 0) = true := rfl
    go_enter Tryd.func82, Tryd.ntmps82
    go_wp2
    go_ret
    exact ⟨rfl, ⟨0, rfl⟩⟩
  · by_cases y0 : y = 0
    · subst y0
      rw [Gf.tm_zero_right]
      have e1 : ((x : Int) == 0) = false := by simp; omega
      have e2 : (((0 : Nat) : Int) == 0) = true := rfl
      go_enter Tryd.func82, Tryd.ntmps82
      go_wp2
      go_ret
      exact ⟨rfl, ⟨0, rfl⟩⟩
    · exact mul_pos b x y hx hy x0 y0 w hB

/-- inverse -/
theorem inverse_any (b : Nat) (x : Nat) (hx : x < 256) (x0 : x ≠ 0) (w : World) (hB : Built w b) :
    Calls Tryd.prog 83 #[.pointer (some ⟨b, 0, none⟩), .int .u8 x] w fun e w' => e = .returned (.int .u8 (Gf.iv x)) ∧ ∃ n, w' = w.drewN n := by
  have c1 := built_log hB x hx x0
  have lx := Gf.L_lt x hx
  have c3 := built_exp hB (255 - Gf.L x) (by omega)
  go_enter Tryd.func83, Tryd.ntmps83
  go_wp2
  go_quiet (fail)
  go_wp2
  go_ret
  exact ⟨ret_int rfl, ⟨nq, rfl⟩⟩

end Go.Proofs.YtehjikogdaclgaaDoor

namespace Go.Proofs.YtehjikogdaclgaaDoor
open Go.RowKit

theorem xor_int (p a : Nat) (hp : p < 256) (ha : a < 256) : bits .xor .u8 (p : Int) (a : Int) = ((p ^^^ a : Nat) : Int) := u8_xor_nat p a hp ha
/-- the product of place i with the other places before j -/
def pnTo (l : List Nat) (i : Nat) : Nat → Nat
  | 0 => 1
  | j + 1 => if i ≠ j then Gf.tm (pnTo l i j) (l.getD i 0 ^^^ l.getD j 0) else pnTo l i j
def scale (l : List Nat) (i : Nat) : Nat := Gf.iv (pnTo l i l.length)
def scalesTo (l : List Nat) (k : Nat) : List Nat := (List.range l.length).map fun i => if i < k then scale l i else 0
def scales (l : List Nat) : List Nat := (List.range l.length).map (scale l)

theorem pnTo_lt (l : List Nat) (hl : ∀ i, l.getD i 0 < 256) (i : Nat) : ∀ j, pnTo l i j < 256
  | 0 => by show 1 < 256; omega
  | j + 1 => by
    unfold pnTo
    split
    · exact Gf.tm_lt _ _ (pnTo_lt l hl i j)
    · exact pnTo_lt l hl i j
theorem xor_ne {a b : Nat} (h : a ≠ b) : a ^^^ b ≠ 0 := fun e => h (by
  have : a ^^^ b ^^^ b = 0 ^^^ b := by rw [e]
  rwa [Nat.xor_assoc, Nat.xor_self, Nat.xor_zero, Nat.zero_xor] at this)
theorem nodup_getD {l : List Nat} (h : l.Nodup) {i j : Nat} (hi : i < l.length) (hj : j < l.length) (hij : i ≠ j) : l.getD i 0 ≠ l.getD j 0 := by
  rw [List.getD_eq_getElem?_getD, List.getD_eq_getElem?_getD, List.getElem?_eq_getElem hi, List.getElem?_eq_getElem hj]
  show l[i] ≠ l[j]
  rcases Nat.lt_or_gt_of_ne hij with h1 | h1
  · exact List.pairwise_iff_getElem.1 h i j hi hj h1
  · exact fun e => List.pairwise_iff_getElem.1 h j i hj hi h1 e.symm
theorem pnTo_pos (l : List Nat) (hl : ∀ i, l.getD i 0 < 256) (hd : l.Nodup) (i : Nat) (hi : i < l.length) : ∀ j, j ≤ l.length → pnTo l i j ≠ 0
  | 0, _ => by show 1 ≠ 0; omega
  | j + 1, hj => by
    unfold pnTo
    split
    · rename_i hij
      exact Gf.tm_pos _ _ (pnTo_lt l hl i j) (Gf.xor_lt (hl i) (hl j)) (pnTo_pos l hl hd i hi j (by omega)) (xor_ne (nodup_getD hd hi (by omega) hij))
    · exact pnTo_pos l hl hd i hi j (by omega)
theorem scalesTo_set (l : List Nat) (k : Nat) (_hk : k < l.length) : (scalesTo l k).set k (scale l k) = scalesTo l (k + 1) := by
  apply List.ext_getElem?
  intro i
  unfold scalesTo
  rw [List.getElem?_set]
  simp only [List.length_map, List.length_range, List.getElem?_map]
  by_cases h : k = i
  · subst h
    rw [if_pos rfl, if_pos (by omega), List.getElem?_range (by omega)]
    simp
  · rw [if_neg h]
    by_cases hi : i < l.length
    · rw [List.getElem?_range hi]
      simp only [Option.map_some]
      by_cases h2 : i < k
      · rw [if_pos h2, if_pos (by omega)]
      · rw [if_neg h2, if_neg (by omega)]
    · rw [List.getElem?_eq_none (by simp; omega)]; rfl
theorem scalesTo_zero (l : List Nat) : scalesTo l 0 = List.replicate l.length 0 := by
  apply List.ext_getElem?
  intro i
  unfold scalesTo
  by_cases hi : i < l.length
  · simp [hi]
  · rw [List.getElem?_eq_none (by simp; omega), List.getElem?_eq_none (by simp; omega)]
theorem scalesTo_all (l : List Nat) : scalesTo l l.length = scales l := by
  unfold scalesTo scales
  apply List.map_congr_left
  intro i hi
  rw [if_pos (List.mem_range.1 hi)]
theorem scalesTo_length (l : List Nat) (k : Nat) : (scalesTo l k).length = l.length := by simp [scalesTo]
theorem scales_length (l : List Nat) : (scales l).length = l.length := by simp [scales]
theorem scales_getD (l : List Nat) (i : Nat) (hi : i < l.length) : (scales l).getD i 0 = scale l i := by
  simp [scales, List.getElem?_map, List.getElem?_range hi]
theorem scales_lt (l : List Nat) : ∀ n ∈ scales l, n < 256 := by
  intro n hn
  unfold scales at hn
  obtain ⟨i, _, rfl⟩ := List.mem_map.1 hn
  exact Gf.iv_lt _

set_option maxRecDepth 100000 in
set_option maxHeartbeats 1000000 in
theorem newLagrange_any (fb : Nat) (b o c : Nat) (l : List Nat) (w : World) (hB : Built w fb) (hl : Bs w (.slice (some ⟨b, o, none⟩) l.length c) l) (hn : l.length ≤ 256) (hd : l.Nodup) :
    Calls Tryd.prog 70 #[.pointer (some ⟨fb, 0, none⟩), .slice (some ⟨b, o, none⟩) l.length c] w fun e w' => ∃ sb, w.heap.size ≤ sb ∧ e = .returned (.agg #[.pointer (some ⟨fb, 0, none⟩), .slice (some ⟨b, o, none⟩) l.length c, .slice (some ⟨sb, 0, none⟩) l.length l.length]) ∧ Own w' sb (scales l) ∧ Below w.heap.size w w' := by
  obtain ⟨n, hnl⟩ : ∃ n, n = l.length := ⟨_, rfl⟩
  have HN := hid hnl
  rw [← hnl] at hl hn ⊢
  clear hnl
  have hmk := mk_u8 n (by omega)
  have hlt := hl.lt
  have HL := hid hlt
  have HD := hid hd
  clear hlt hd
  have hbl : Below w.heap.size w ((w.alloc (Obj.cells #[Value.pointer none, Value.slice none 0 0, Value.slice none 0 0] 99)).alloc (zrow n)) := ((Below.refl _ _).alloc (Nat.le_refl _) _).alloc (by simp) _
  have hown : Own ((w.alloc (Obj.cells #[Value.pointer none, Value.slice none 0 0, Value.slice none 0 0] 99)).alloc (zrow n)) (w.heap.size + 1) (scalesTo l 0) := by
    rw [scalesTo_zero, ← HN.out]
    have := own_zrow (w.alloc (Obj.cells #[Value.pointer none, Value.slice none 0 0, Value.slice none 0 0] 99)) n
    rwa [World.size_alloc] at this
  have hres : ((w.alloc (Obj.cells #[Value.pointer none, Value.slice none 0 0, Value.slice none 0 0] 99)).alloc (zrow n)).heap[w.heap.size]? = some (Obj.cells #[Value.pointer none, Value.slice none 0 0, Value.slice none 0 0] 99) := heap_alloc (heap_new _ _) _
  have Hres := hid hres
  clear hres
  go_enter Tryd.func70, Tryd.ntmps70
  go_wp2
  clear hmk
  go_loopw [16] (fun i wr => ∃ k : Nat, k ≤ n ∧ i = .int .i64 k ∧ Own wr (w.heap.size + 1) (scalesTo l k) ∧ Below w.heap.size w wr ∧ Hid (wr.heap[w.heap.size]? = some (Obj.cells #[Value.pointer none, Value.slice none 0 0, Value.slice none 0 0] 99))) (fun i _ => n - (intOf i).toNat)
  case atStart => exact ⟨0, by omega, rfl, hown, hbl, Hres⟩
  case round =>
    clear hown hbl Hres
    obtain ⟨k, hk, rfl, hown, hbl, Hres⟩ := hrel
    obtain ⟨wo, rfl⟩ : ∃ wo : World, wo = wr := ⟨_, rfl⟩
    have hBo := hB.below hbl hB.lt
    have hlo := hl.below hbl
    by_cases hlt : k < n
    · have ck := hlo.cell k (by rw [← HN.out]; exact hlt)
      have hkl := HL.out k
      generalize hpk : l.getD k 0 = pk at *
      have HPK := hid hpk
      clear hpk
      go_wp2
      go_loopw [8, 9, 10, 23] (fun p _ _ j wr => ∃ m : Nat, m ≤ n ∧ j = .int .i64 m ∧ p = .int .u8 (pnTo l k m) ∧ ∃ q, Hid (wr = wo.drewN q)) (fun _ _ _ j _ => n - (intOf j).toNat)
      case atStart => exact ⟨0, by omega, rfl, rfl, 0, rfl⟩
      case round =>
        obtain ⟨m, hm, rfl, rfl, q, hw⟩ := hrel
        have hw' := hw.out
        subst hw'
        clear hw
        have hBo2 := hBo.drewN q
        have hlo2 := hlo.drewN q
        by_cases hlt2 : m < n
        · have cm := hlo2.cell m (by rw [← HN.out]; exact hlt2)
          have hml := HL.out m
          have hpl := pnTo_lt l HL.out k m
          by_cases hkm : k = m
          · have hb1 : ((k : Int) != (m : Int)) = false := by simp [hkm]
            have hst : pnTo l k (m + 1) = pnTo l k m := by
              show (if k ≠ m then _ else _) = _
              rw [if_neg (by simp [hkm])]
            have HS := hid hst
            clear hst hkm
            go_wp2
            go_roundw
            case rel => exact ⟨m + 1, by omega, by go_num, by rw [HS.out], q, hid rfl⟩
            case measure => simp [intOf]; omega
          · have hb1 : ((k : Int) != (m : Int)) = true := by simp; omega
            have hst : pnTo l k (m + 1) = Gf.tm (pnTo l k m) (pk ^^^ l.getD m 0) := by
              show (if k ≠ m then _ else _) = _
              rw [if_pos hkm, HPK.out]
            have hxi := xor_int pk _ hkl hml
            have hxl := Gf.xor_lt hkl hml
            have HS := hid hst
            clear hst hkm
            generalize l.getD m 0 = pm at *
            generalize pk ^^^ pm = xx at *
            generalize pnTo l k m = pp at *
            go_wp2_with (go_at_call 82; refine (mul_any fb pp xx hpl hxl _ hBo2).mono ?_; rintro e w' ⟨rfl, r, rfl⟩)
            go_roundw
            case rel => exact ⟨m + 1, by omega, by go_num, by rw [HS.out], q + r, hid rfl⟩
            case measure => simp [intOf]; omega
        · obtain rfl : m = n := by omega
          have hpl := pnTo_lt l HL.out k m
          have hpp := pnTo_pos l HL.out HD.out k (by rw [← HN.out]; exact hlt) m (by rw [← HN.out]; omega)
          have hsc : scale l k = Gf.iv (pnTo l k m) := by unfold scale; rw [← HN.out]
          have HSC := hid hsc
          clear hsc
          generalize pnTo l k m = pp at *
          have co := hown.cell k (by rw [scalesTo_length, ← HN.out]; exact hlt)
          have fo := hown.free k
          go_wp2_with (go_at_call 83; refine (inverse_any fb pp hpl hpp _ hBo2).mono ?_; rintro e w' ⟨rfl, r, rfl⟩)
          go_roundw
          case rel =>
            refine ⟨k + 1, by omega, by go_num, ?_, ?_, ?_⟩
            · have h5 := (hown.drewN (q + r)).set k (Gf.iv pp)
              rw [← HSC.out, scalesTo_set l k (by rw [← HN.out]; exact hlt)] at h5
              rw [← HSC.out]
              exact h5
            · exact (bel_drewN hbl _).setCell (by simp) _
            · exact (Below.heap_setCell _ _ _ _ (by simp)).trans Hres.out
          case measure => simp [intOf]; omega
    · obtain rfl : k = n := by omega
      have hres := Hres.out
      have r0 := cell_of_heap hres 0
      have r1 := cell_of_heap hres 1
      have r2 := cell_of_heap hres 2
      have g0 := free_of_heap hres 0
      have g1 := free_of_heap hres 1
      have g2 := free_of_heap hres 2
      clear hres
      go_wp2
      refine bodyPost_ret (v := .agg #[.pointer (some ⟨fb, 0, none⟩), .slice (some ⟨b, o, none⟩) k c, .slice (some ⟨w.heap.size + 1, 0, none⟩) k k]) (by simp [results, Tryd.results70, go_sem, r0, r1, r2]) rfl ⟨w.heap.size + 1, by omega, rfl, ?_, ?_⟩
      · have h5 := hown
        have h6 := scalesTo_all l
        rw [← HN.out] at h6
        rw [h6] at h5
        exact ((h5.setCell (by simp) _).setCell (by simp) _).setCell (by simp) _
      · exact ((hbl.setCell (by simp) _).setCell (by simp) _).setCell (by simp) _
theorem newLagrange_n (fb b o c n : Nat) (l : List Nat) (hnl : n = l.length) (w : World) (hB : Built w fb) (hl : Bs w (.slice (some ⟨b, o, none⟩) n c) l) (hn : n ≤ 256) (hd : l.Nodup) :
    Calls Tryd.prog 70 #[.pointer (some ⟨fb, 0, none⟩), .slice (some ⟨b, o, none⟩) n c] w fun e w' => ∃ sb, w.heap.size ≤ sb ∧ e = .returned (.agg #[.pointer (some ⟨fb, 0, none⟩), .slice (some ⟨b, o, none⟩) n c, .slice (some ⟨sb, 0, none⟩) n n]) ∧ Own w' sb (scales l) ∧ Below w.heap.size w w' := by
  subst hnl
  exact newLagrange_any fb b o c l w hB hl hn hd
end Go.Proofs.YtehjikogdaclgaaDoor

namespace Go.Proofs.YtehjikogdaclgaaDoor
open Go.RowKit

/-- the product of x with the first k places -/
def pxTo (l : List Nat) (x : Nat) : Nat → Nat
  | 0 => 1
  | k + 1 => Gf.tm (pxTo l x k) (x ^^^ l.getD k 0)
def wt (l sc : List Nat) (x i : Nat) : Nat := Gf.tm (Gf.tm (pxTo l x l.length) (Gf.iv (x ^^^ l.getD i 0))) (sc.getD i 0)
/-- the weights -/
def wts (l sc : List Nat) (x : Nat) : List Nat :=
  if x ∈ l then (List.replicate l.length 0).set (l.idxOf x) 1 else (List.range l.length).map (wt l sc x)
def ints (l : List Nat) : List Int := l.map fun (n : Nat) => (n : Int)
theorem ints_getD (l : List Nat) (i : Nat) : (ints l).getD i 0 = ((l.getD i 0 : Nat) : Int) := by
  unfold ints
  rw [List.getD_eq_getElem?_getD, List.getD_eq_getElem?_getD, List.getElem?_map]
  cases l[i]? <;> rfl
theorem u8_inj : ∀ a : Nat, a < 256 → ∀ b : Nat, b < 256 → ((a : Int).toNat.toUInt8 == (b : Int).toNat.toUInt8) = decide (a = b) := by
  intro a ha b hb
  rw [Bool.eq_iff_iff]
  simp only [Int.toNat_natCast, beq_iff_eq, decide_eq_true_eq]
  constructor
  · intro h
    have := congrArg UInt8.toNat h
    simp at this
    omega
  · intro h; rw [h]
theorem index_ints (x : Nat) (hx : x < 256) : ∀ l : List Nat, (∀ n ∈ l, n < 256) → Lib.indexByte (Lib.bytesOf (ints l)) (x : Int).toNat.toUInt8 = if x ∈ l then ((l.idxOf x : Nat) : Int) else -1
  | [], _ => rfl
  | a :: l, h => by
    have ih := index_ints x hx l (fun n hn => h n (by simp [hn]))
    show (if (a : Int).toNat.toUInt8 == (x : Int).toNat.toUInt8 then (0 : Int) else if Lib.indexByte (Lib.bytesOf (ints l)) (x : Int).toNat.toUInt8 == -1 then -1 else Lib.indexByte (Lib.bytesOf (ints l)) (x : Int).toNat.toUInt8 + 1) = _
    rw [u8_inj a (h a (by simp)) x hx, ih]
    by_cases e : a = x
    · subst e; simp
    · have e' : ¬ x = a := fun h => e h.symm
      by_cases hm : x ∈ l
      · have hne : (((l.idxOf x : Nat) : Int) == -1) = false := by simp
        have he : (a == x) = false := by simp [e]
        simp [e, hm, List.idxOf_cons, hne, he]
      · simp [e, e', hm]

def ixOf (l : List Nat) (x : Nat) : Int := if x ∈ l then ((l.idxOf x : Nat) : Int) else -1
set_option maxRecDepth 100000 in
theorem indexByte_any (b o c : Nat) (l : List Nat) (n x : Nat) (p : Int) (hp : p = ixOf l x) (hx : x < 256) (w : World) (hl : Bs w (.slice (some ⟨b, o, none⟩) n c) l) :
    Calls Tryd.prog 84 #[.slice (some ⟨b, o, none⟩) n c, .int .u8 x] w fun e w' => e = .returned (.int .i64 p) ∧ w = w' := by
  have hnl := hl.len
  have hrun := Lib.run_indexByteSlice (P := Tryd.prog) w b o n c (ints l) (by simp [ints, hnl]) (fun i hi => by rw [ints_getD]; exact hl.cell i (by omega)) x
  have h2 := index_ints x hx l (by obtain ⟨_, _, _, h, _⟩ := hl; exact h)
  rw [h2] at hrun
  unfold ixOf at hp
  rw [← hp] at hrun
  have HRUN := hid hrun
  clear h2 hrun hp hnl
  go_enter Tryd.func84, Tryd.ntmps84
  go_wp2
  rw [run_callFunc_extern Tryd.func92 (by kernel_rfl) (by kernel_rfl) (by kernel_rfl) (e := Extern.BytealgIndexByte.indexByte) (by kernel_rfl), HRUN.out]
  simp only [Result.andThen]
  rw [Oper.upon_value]
  go_wp2
  go_ret
  exact ⟨rfl, rfl⟩

theorem pxTo_lt (l : List Nat) (x : Nat) : ∀ k, pxTo l x k < 256
  | 0 => by show 1 < 256; omega
  | k + 1 => Gf.tm_lt _ _ (pxTo_lt l x k)
def wtsTo (l sc : List Nat) (x k : Nat) : List Nat := (List.range l.length).map fun i => if i < k then wt l sc x i else 0
theorem wtsTo_zero (l sc : List Nat) (x : Nat) : wtsTo l sc x 0 = List.replicate l.length 0 := by
  apply List.ext_getElem?
  intro i
  unfold wtsTo
  by_cases hi : i < l.length
  · simp [hi]
  · rw [List.getElem?_eq_none (by simp; omega), List.getElem?_eq_none (by simp; omega)]
theorem wtsTo_all (l sc : List Nat) (x : Nat) : wtsTo l sc x l.length = (List.range l.length).map (wt l sc x) := by
  unfold wtsTo
  apply List.map_congr_left
  intro i hi
  rw [if_pos (List.mem_range.1 hi)]
theorem wtsTo_length (l sc : List Nat) (x k : Nat) : (wtsTo l sc x k).length = l.length := by simp [wtsTo]
theorem wtsTo_set (l sc : List Nat) (x k : Nat) (_hk : k < l.length) : (wtsTo l sc x k).set k (wt l sc x k) = wtsTo l sc x (k + 1) := by
  apply List.ext_getElem?
  intro i
  unfold wtsTo
  rw [List.getElem?_set]
  simp only [List.length_map, List.length_range, List.getElem?_map]
  by_cases h : k = i
  · subst h
    rw [if_pos rfl, if_pos (by omega), List.getElem?_range (by omega)]
    simp
  · rw [if_neg h]
    by_cases hi : i < l.length
    · rw [List.getElem?_range hi]
      simp only [Option.map_some]
      by_cases h2 : i < k
      · rw [if_pos h2, if_pos (by omega)]
      · rw [if_neg h2, if_neg (by omega)]
    · rw [List.getElem?_eq_none (by simp; omega)]; rfl
theorem wts_length (l sc : List Nat) (x : Nat) : (wts l sc x).length = l.length := by unfold wts; split <;> simp
theorem wts_lt (l sc : List Nat) (x : Nat) : ∀ n ∈ wts l sc x, n < 256 := by
  intro n hn
  unfold wts at hn
  split at hn
  · have := List.mem_or_eq_of_mem_set hn
    rcases this with h | h
    · have := List.eq_of_mem_replicate h; omega
    · omega
  · obtain ⟨i, _, rfl⟩ := List.mem_map.1 hn
    exact Gf.tm_lt _ _ (Gf.tm_lt _ _ (pxTo_lt _ _ _))

set_option maxRecDepth 100000 in
set_option maxHeartbeats 1000000 in
theorem weights_any (fb : Nat) (b o c sb so sc : Nat) (l scl : List Nat) (x : Nat) (hx : x < 256) (w : World) (hB : Built w fb) (hl : Bs w (.slice (some ⟨b, o, none⟩) l.length c) l) (hs : Bs w (.slice (some ⟨sb, so, none⟩) l.length sc) scl) (hn : l.length ≤ 256) :
    Calls Tryd.prog 71 #[.agg #[.pointer (some ⟨fb, 0, none⟩), .slice (some ⟨b, o, none⟩) l.length c, .slice (some ⟨sb, so, none⟩) l.length sc], .int .u8 x] w fun e w' => ∃ ob, w.heap.size ≤ ob ∧ e = .returned (.slice (some ⟨ob, 0, none⟩) l.length l.length) ∧ Own w' ob (wts l scl x) ∧ Below w.heap.size w w' := by
  obtain ⟨n, hnl⟩ : ∃ n, n = l.length := ⟨_, rfl⟩
  have HN := hid hnl
  rw [← hnl] at hl hs hn ⊢
  clear hnl
  have hmk := mk_u8 n (by omega)
  have HL := hid hl.lt
  have HSL := hid hs.lt
  by_cases hm : x ∈ l
  · obtain ⟨p, hp⟩ : ∃ p, p = l.idxOf x := ⟨_, rfl⟩
    have hpn : p < n := by rw [hp, HN.out]; exact List.idxOf_lt_length_of_mem hm
    have hwt : wts l scl x = (List.replicate n 0).set p 1 := by unfold wts; rw [if_pos hm, ← HN.out, hp]
    have hix : (p : Int) = ixOf l x := by unfold ixOf; rw [if_pos hm, hp]
    rw [hwt]
    have HIX := hid hix
    clear hix hwt hp hm hs HL HSL
    have hge : (0 : Int) ≤ (p : Int) := by omega
    have ho := own_zrow (w.alloc (Obj.cells #[Value.pointer (some ⟨fb, 0, none⟩), Value.slice (some ⟨b, o, none⟩) n c, Value.slice (some ⟨sb, so, none⟩) n sc] 99)) n
    rw [World.size_alloc] at ho
    have hc := ho.cell p (by simpa using hpn)
    have hf := ho.free p
    have hb : Below w.heap.size w ((w.alloc (Obj.cells #[Value.pointer (some ⟨fb, 0, none⟩), Value.slice (some ⟨b, o, none⟩) n c, Value.slice (some ⟨sb, so, none⟩) n sc] 99)).alloc (zrow n)) := ((Below.refl _ _).alloc (Nat.le_refl _) _).alloc (by simp) _
    go_enter Tryd.func71, Tryd.ntmps71
    go_wp2_with (go_at_call 84; refine (indexByte_any b o c l n x p HIX.out hx _ ((hl.alloc _).alloc _)).mono ?_; rintro e w' ⟨rfl, rfl⟩)
    go_ret
    exact ⟨w.heap.size + 1, by omega, rfl, ho.set p 1, hb.setCell (by simp) _⟩
  · have hwt : wts l scl x = wtsTo l scl x n := by unfold wts; rw [if_neg hm, HN.out, wtsTo_all]
    have hix : (-1 : Int) = ixOf l x := by unfold ixOf; rw [if_neg hm]
    have hne : ∀ i, i < n → x ≠ l.getD i 0 := fun i hi e => hm (by
      rw [e, List.getD_eq_getElem?_getD, List.getElem?_eq_getElem (by rw [← HN.out]; exact hi)]
      exact List.getElem_mem _)
    rw [hwt]
    have HIX := hid hix
    have HNE := hid hne
    clear hix hwt hm hne
    have ho := own_zrow (w.alloc (Obj.cells #[Value.pointer (some ⟨fb, 0, none⟩), Value.slice (some ⟨b, o, none⟩) n c, Value.slice (some ⟨sb, so, none⟩) n sc] 99)) n
    rw [World.size_alloc, HN.out, ← wtsTo_zero l scl x, ← HN.out] at ho
    have hb : Below w.heap.size w ((w.alloc (Obj.cells #[Value.pointer (some ⟨fb, 0, none⟩), Value.slice (some ⟨b, o, none⟩) n c, Value.slice (some ⟨sb, so, none⟩) n sc] 99)).alloc (zrow n)) := ((Below.refl _ _).alloc (Nat.le_refl _) _).alloc (by simp) _
    have hbox : ((w.alloc (Obj.cells #[Value.pointer (some ⟨fb, 0, none⟩), Value.slice (some ⟨b, o, none⟩) n c, Value.slice (some ⟨sb, so, none⟩) n sc] 99)).alloc (zrow n)).heap[w.heap.size]? = some (Obj.cells #[Value.pointer (some ⟨fb, 0, none⟩), Value.slice (some ⟨b, o, none⟩) n c, Value.slice (some ⟨sb, so, none⟩) n sc] 99) := heap_alloc (heap_new _ _) _
    have HBOX := hid hbox
    clear hbox
    go_enter Tryd.func71, Tryd.ntmps71
    go_wp2_with (go_at_call 84; refine (indexByte_any b o c l n x (-1) HIX.out hx _ ((hl.alloc _).alloc _)).mono ?_; rintro e w' ⟨rfl, rfl⟩)
    generalize hw1 : (w.alloc (Obj.cells #[Value.pointer (some ⟨fb, 0, none⟩), Value.slice (some ⟨b, o, none⟩) n c, Value.slice (some ⟨sb, so, none⟩) n sc] 99)).alloc (zrow n) = w1 at *
    clear hw1
    have hB1 := hB.below hb hB.lt
    have hl1 := hl.below hb
    have hs1 := hs.below hb
    go_loopw [8, 10, 32] (fun p _ j wr => ∃ m : Nat, m ≤ n ∧ j = .int .i64 m ∧ p = .int .u8 (pxTo l x m) ∧ ∃ q, Hid (wr = w1.drewN q)) (fun _ _ j _ => n - (intOf j).toNat)
    case atStart => exact ⟨0, by omega, rfl, rfl, 0, rfl⟩
    case round =>
      obtain ⟨m, hm, rfl, rfl, q, hw⟩ := hrel
      have hw' := hw.out
      subst hw'
      clear hw
      by_cases hlt : m < n
      · have cm := (hl1.drewN q).cell m (by rw [← HN.out]; exact hlt)
        have hml := HL.out m
        have hpl := pxTo_lt l x m
        have hst : pxTo l x (m + 1) = Gf.tm (pxTo l x m) (x ^^^ l.getD m 0) := rfl
        have HS := hid hst
        clear hst
        generalize l.getD m 0 = pm at *
        have hxi := u8_xor_nat x pm hx hml
        have hxl := Gf.xor_lt hx hml
        generalize x ^^^ pm = xx at *
        generalize pxTo l x m = pp at *
        go_wp2_with (go_at_call 82; refine (mul_any fb pp xx hpl hxl _ (hB1.drewN q)).mono ?_; rintro e w' ⟨rfl, r, rfl⟩)
        go_roundw
        case rel => exact ⟨m + 1, by omega, by go_num, by rw [HS.out], q + r, hid rfl⟩
        case measure => simp [intOf]; omega
      · obtain rfl : m = n := by omega
        have hx0 : (w1.drewN q).cell? ⟨w.heap.size, 0, none⟩ = some (Value.pointer (some ⟨fb, 0, none⟩)) := cell_of_heap HBOX.out 0
        have hx1 : (w1.drewN q).cell? ⟨w.heap.size, 1, none⟩ = some (Value.slice (some ⟨b, o, none⟩) m c) := cell_of_heap HBOX.out 1
        have hpx := pxTo_lt l x m
        have hpe : ∀ i, i < m → wt l scl x i = Gf.tm (Gf.tm (pxTo l x m) (Gf.iv (x ^^^ l.getD i 0))) (scl.getD i 0) := fun i _ => by unfold wt; rw [← HN.out]
        have HPE := hid hpe
        clear hpe
        generalize pxTo l x m = pp at *
        go_wp2
        clear hmk hx0 hx1
        go_loopw [11, 12, 46] (fun _ _ j wr => ∃ k : Nat, k ≤ m ∧ j = .int .i64 k ∧ Own wr (w.heap.size + 1) (wtsTo l scl x k) ∧ Below w.heap.size w wr ∧ Hid (wr.heap[w.heap.size]? = some (Obj.cells #[Value.pointer (some ⟨fb, 0, none⟩), Value.slice (some ⟨b, o, none⟩) m c, Value.slice (some ⟨sb, so, none⟩) m sc] 99))) (fun _ _ j _ => m - (intOf j).toNat)
        case atStart => exact ⟨0, by omega, rfl, ho.drewN q, bel_drewN hb q, hid HBOX.out⟩
        case round =>
          clear ho hb HBOX
          obtain ⟨k, hk, rfl, ho, hb, HBOX⟩ := hrel
          have hBr := hB.below hb hB.lt
          by_cases hlt2 : k < m
          · have ck := (hl.below hb).cell k (by rw [← HN.out]; exact hlt2)
            have cs := (hs.below hb).cell k (by rw [← hs.len]; exact hlt2)
            have hx2 : wr.cell? ⟨w.heap.size, 2, none⟩ = some (Value.slice (some ⟨sb, so, none⟩) m sc) := cell_of_heap HBOX.out 2
            have co := ho.cell k (by rw [wtsTo_length, ← HN.out]; exact hlt2)
            have fo := ho.free k
            have hkl := HL.out k
            have hks := HSL.out k
            have hwk := HPE.out k hlt2
            have hne := HNE.out k hlt2
            generalize l.getD k 0 = pk at *
            generalize scl.getD k 0 = sk at *
            have hxi := u8_xor_nat x pk hx hkl
            have hxl := Gf.xor_lt hx hkl
            have hx0 := xor_ne hne
            have hil := Gf.iv_lt (x ^^^ pk)
            have hml := Gf.tm_lt pp (Gf.iv (x ^^^ pk)) hpx
            have HWK := hid hwk
            clear hwk hne
            generalize x ^^^ pk = xx at *
            have HX0 := hid hx0
            clear hx0
            generalize hqq : Gf.tm pp (Gf.iv xx) = qq at *
            have HQQ := hid hqq
            clear hqq
            have hmul2 : ∀ w, Built w fb → Calls Tryd.prog 82 #[.pointer (some ⟨fb, 0, none⟩), .int .u8 pp, .int .u8 (Gf.iv xx)] w fun e w' => e = .returned (.int .u8 qq) ∧ ∃ n, w' = w.drewN n := fun w hw => by
              have := mul_any fb pp (Gf.iv xx) hpx hil w hw
              rwa [HQQ.out] at this
            have HM2 := hid hmul2
            clear hmul2
            go_wp2
            refine region_quiet_tail 18 (by kernel_rfl) (by kernel_rfl) ?_
            simp only [List.take_succ_cons, List.take_zero, List.drop_succ_cons, List.drop_zero]
            repeat (quiet_step ((first | (go_at_call 83; exact Calls.quiet_of (inverse_any fb xx hxl HX0.out _ (hBr.drewN _))) | (go_at_call_of 82 (Value.int .u8 (sk : Int)); exact Calls.quiet_of (mul_any fb qq sk hml hks _ (hBr.drewN _))) | (go_at_call 82; exact Calls.quiet_of (HM2.out _ (hBr.drewN _))))))
            refine wpQuiet_nil ?_
            intro nq
            go_wp2
            refine ⟨⟨k + 1, by omega, by go_num, ?_, ?_, ?_⟩, by simp [intOf]; omega⟩
            · have h5 := (ho.drewN nq).set k (Gf.tm qq sk)
              rw [← wtsTo_set l scl x k (by rw [← HN.out]; exact hlt2), HWK.out]
              exact h5
            · exact (bel_drewN hb _).setCell (by simp) _
            · exact (Below.heap_setCell _ _ _ _ (by simp)).trans HBOX.out
          · obtain rfl : k = m := by omega
            go_wp2
            go_ret
            exact ⟨w.heap.size + 1, by omega, rfl, ho, hb⟩
theorem weights_n (fb : Nat) (b o c sb so sc n : Nat) (l scl : List Nat) (x : Nat) (hnl : n = l.length) (hx : x < 256) (w : World) (hB : Built w fb) (hl : Bs w (.slice (some ⟨b, o, none⟩) n c) l) (hs : Bs w (.slice (some ⟨sb, so, none⟩) n sc) scl) (hn : n ≤ 256) :
    Calls Tryd.prog 71 #[.agg #[.pointer (some ⟨fb, 0, none⟩), .slice (some ⟨b, o, none⟩) n c, .slice (some ⟨sb, so, none⟩) n sc], .int .u8 x] w fun e w' => ∃ ob, w.heap.size ≤ ob ∧ e = .returned (.slice (some ⟨ob, 0, none⟩) n n) ∧ Own w' ob (wts l scl x) ∧ Below w.heap.size w w' := by
  subst hnl
  exact weights_any fb b o c sb so sc l scl x hx w hB hl hs hn
end Go.Proofs.YtehjikogdaclgaaDoor

namespace Go.Proofs.YtehjikogdaclgaaDoor
open Go.RowKit

/-- the first k bytes from so on have got their multiple -/
def axTo (L : List Nat) (so : Nat) (bl : List Nat) (f : Nat) : Nat → List Nat
  | 0 => L
  | k + 1 => (axTo L so bl f k).set (so + k) ((axTo L so bl f k).getD (so + k) 0 ^^^ Gf.tm f (bl.getD k 0))
theorem axTo_length (L : List Nat) (so : Nat) (bl : List Nat) (f : Nat) : ∀ k, (axTo L so bl f k).length = L.length
  | 0 => rfl
  | k + 1 => by simp [axTo, axTo_length L so bl f k]
theorem axTo_getD (L : List Nat) (so : Nat) (bl : List Nat) (f : Nat) : ∀ k, so + k ≤ L.length → ∀ i, (axTo L so bl f k).getD i 0 = if so ≤ i ∧ i < so + k then L.getD i 0 ^^^ Gf.tm f (bl.getD (i - so) 0) else L.getD i 0
  | 0, _, i => by rw [if_neg (by omega)]; rfl
  | k + 1, hk, i => by
    have ih := axTo_getD L so bl f k (by omega)
    have hlen := axTo_length L so bl f k
    unfold axTo
    rw [List.getD_eq_getElem?_getD, List.getElem?_set]
    by_cases h : so + k = i
    · rw [if_pos h, if_pos (by omega), if_pos (by omega), ← h, ih, if_neg (by omega), show so + k - so = k from by omega]
      rfl
    · rw [if_neg h, ← List.getD_eq_getElem?_getD, ih]
      by_cases h2 : so ≤ i ∧ i < so + k
      · rw [if_pos h2, if_pos (by omega)]
      · rw [if_neg h2, if_neg (by omega)]

set_option maxRecDepth 100000 in
set_option maxHeartbeats 1000000 in
theorem addScaled_any (fb sb so n sc : Nat) (L : List Nat) (ba : Option Addr) (bb bo bn bc : Nat) (bl : List Nat) (f : Nat) (w : World) (hB : Built w fb) (hL : Own w sb L) (hfs : fb ≠ sb) (hso : so + n ≤ L.length) (hba : 0 < n → ba = some ⟨bb, bo, none⟩) (hbn : n ≤ bn) (hbl : bn ≤ 4611686018427387904) (hn : n ≤ 4611686018427387904) (hf : f < 256) (hbl2 : ∀ i, bl.getD i 0 < 256) (hL2 : ∀ i, L.getD i 0 < 256)
    (hrd : ∀ k, k < n → ∀ w', Own w' sb (axTo L so bl f k) → (∀ j, j < w.heap.size → j ≠ sb → w'.heap[j]? = w.heap[j]?) → w'.cell? ⟨bb, bo + k, none⟩ = some (.int .u8 (bl.getD k 0))) :
    Calls Tryd.prog 72 #[.pointer (some ⟨fb, 0, none⟩), .slice (some ⟨sb, so, none⟩) n sc, .slice ba bn bc, .int .u8 f] w fun e w' => e = .returned (.tuple #[]) ∧ Own w' sb (axTo L so bl f n) ∧ Kept sb w w' := by
  have HR := hid hrd
  have HA := hid hba
  have HL2 := hid hL2
  have HB2 := hid hbl2
  clear hrd hba hL2 hbl2
  go_enter Tryd.func72, Tryd.ntmps72
  go_wp2
  go_loopw [11] (fun i wr => ∃ k : Nat, k ≤ n ∧ i = .int .i64 k ∧ Own wr sb (axTo L so bl f k) ∧ Kept sb w wr) (fun i _ => n - (intOf i).toNat)
  case atStart => exact ⟨0, by omega, rfl, hL, Kept.refl _ _⟩
  case round =>
    obtain ⟨k, hk, rfl, hown, hkept⟩ := hrel
    have hBr : Built wr fb := (hkept.block fb hB.lt hfs).trans hB
    by_cases hlt : k < n
    · have ca := HA.out (by omega)
      subst ca
      have cb := HR.out k hlt wr hown hkept.block
      have cs := hown.cell (so + k) (by rw [axTo_length]; omega)
      have fs := hown.free (so + k)
      have lb := HB2.out k
      have ls : (axTo L so bl f k).getD (so + k) 0 < 256 := by
        rw [axTo_getD _ _ _ _ _ (by omega)]
        split
        · exact Gf.xor_lt (HL2.out _) (Gf.tm_lt _ _ hf)
        · exact HL2.out _
      have hst : axTo L so bl f (k + 1) = (axTo L so bl f k).set (so + k) ((axTo L so bl f k).getD (so + k) 0 ^^^ Gf.tm f (bl.getD k 0)) := rfl
      have HS := hid hst
      clear hst
      generalize hz : (axTo L so bl f k).getD (so + k) 0 = z at *
      have HZ := hid hz
      clear hz
      have hx := hid (u8_xor_nat z (Gf.tm f (bl.getD k 0)) ls (Gf.tm_lt _ _ hf))
      generalize bl.getD k 0 = y at *
      have hmul := fun w hB => mul_any fb f y hf lb w hB
      go_wp2
      go_region_with (go_at_call 82; refine (mul_any fb f y hf lb _ (by first | exact hBr | exact hBr.drewN _)).mono ?_; rintro e w' ⟨rfl, r, rfl⟩)
      all_goals
        go_wp2
        go_roundw
        case rel =>
          refine ⟨k + 1, by omega, by go_num, ?_, ?_⟩
          · rw [HS.out, hx.out]
            refine Own.set ?_ _ _
            exact hown
          · refine Kept.setCell (p := ⟨sb, so + k, none⟩) ?_ rfl _
            exact ⟨hkept.os, hkept.tape, hkept.output, hkept.size, hkept.block⟩
        case measure => simp [intOf]; omega
    · obtain rfl : k = n := by omega
      go_wp2
      go_end0
      exact ⟨rfl, hown, hkept⟩
theorem addScaled_bs (fb sb so n sc : Nat) (L : List Nat) (ba : Option Addr) (bc : Nat) (bl : List Nat) (f : Nat) (w : World) (hB : Built w fb) (hL : Own w sb L) (hfs : fb ≠ sb) (hso : so + n ≤ L.length) (hb : Bs w (.slice ba n bc) bl) (ho : 0 < n → Off sb (.slice ba n bc)) (hn : n ≤ 4611686018427387904) (hf : f < 256) (hL2 : ∀ i, L.getD i 0 < 256) :
    Calls Tryd.prog 72 #[.pointer (some ⟨fb, 0, none⟩), .slice (some ⟨sb, so, none⟩) n sc, .slice ba n bc, .int .u8 f] w fun e w' => e = .returned (.tuple #[]) ∧ Own w' sb (axTo L so bl f n) ∧ Kept sb w w' := by
  have hl := hb.len
  rcases hb.addr with ⟨h0, _⟩ | ⟨h0, bb, bo, c, hv⟩
  · have hn0 : n = 0 := by rw [hl, h0]; rfl
    exact addScaled_any fb sb so n sc L ba 0 0 n bc bl f w hB hL hfs hso (fun h => by omega) (Nat.le_refl _) hn hn hf hb.lt hL2 (fun k hk => by omega)
  · simp only [Value.slice.injEq] at hv
    obtain ⟨rfl, _, _⟩ := hv
    refine addScaled_any fb sb so n sc L _ bb bo n bc bl f w hB hL hfs hso (fun _ => rfl) (Nat.le_refl _) hn hn hf hb.lt hL2 (fun k hk w' _ hw' => ?_)
    have hc := hb.cell k (by omega)
    have hbs : bb ≠ sb := ho (by omega)
    have hlt := World.block_lt_of_cell? _ _ hc
    rw [World.cell?_of_block (w := w) (hw' bb hlt hbs)]
    exact hc
end Go.Proofs.YtehjikogdaclgaaDoor

namespace Go.Proofs.YtehjikogdaclgaaDoor
open Go.RowKit

/-- a slice value: where it begins, its length, its capacity -/
abbrev Sl := Option Addr × Nat × Nat
/-- the slice value v reads as pieces with these numbers and these data slices -/
def Ps (w : World) (v : Value) (ps : List (Int × Sl)) : Prop :=
  ∃ a c, v = .slice a ps.length c ∧ (ps ≠ [] → ∃ b o, a = some ⟨b, o, none⟩ ∧ ∀ i, (h : i < ps.length) → w.cell? ⟨b, o + i * 2, none⟩ = some (.int .i64 ps[i].1) ∧ w.cell? ⟨b, o + i * 2 + 1, none⟩ = some (.slice ps[i].2.1 ps[i].2.2.1 ps[i].2.2.2))
theorem Ps.below {w w' : World} {v : Value} {ps : List (Int × Sl)} (h : Ps w v ps) (k : Below w.heap.size w w') : Ps w' v ps := by
  obtain ⟨a, c, h1, h3⟩ := h
  refine ⟨a, c, h1, fun hl => ?_⟩
  obtain ⟨b, o, ha, hc⟩ := h3 hl
  refine ⟨b, o, ha, fun i hi => ?_⟩
  have := hc i hi
  rw [k.cell (World.block_lt_of_cell? _ _ this.1), k.cell (World.block_lt_of_cell? _ _ this.2)]; exact this

set_option maxRecDepth 100000 in
set_option maxHeartbeats 1000000 in
/-- newSource of pieces with different numbers below 256 -/
theorem newSource_any (fb b o c : Nat) (ps : List (Int × Sl)) (l : List Nat) (w : World) (hB : Built w fb) (hp : Ps w (.slice (some ⟨b, o, none⟩) ps.length c) ps) (h0 : ps.length ≠ 0) (hn : ps.length ≤ 256)
    (hl : l.length = ps.length) (hpl : ∀ i, (h : i < ps.length) → ps[i].1 = ((l.getD i 0 : Nat) : Int)) (hlt : ∀ n ∈ l, n < 256) (hd : l.Nodup) :
    Calls Tryd.prog 53 #[.pointer (some ⟨fb, 0, none⟩), .slice (some ⟨b, o, none⟩) ps.length c] w fun e w' => ∃ pb sb, w.heap.size ≤ pb ∧ w.heap.size ≤ sb ∧ e = .returned (.agg #[.slice (some ⟨b, o, none⟩) ps.length c, .pointer (some ⟨fb, 0, none⟩), .slice (some ⟨pb, 0, none⟩) ps.length ps.length, .slice (some ⟨sb, 0, none⟩) ps.length ps.length]) ∧ Own w' pb l ∧ Own w' sb (scales l) ∧ Below w.heap.size w w' := by
  obtain ⟨n, hnl⟩ : ∃ n, n = ps.length := ⟨_, rfl⟩
  have HN := hid hnl
  rw [← hnl] at hp h0 hn ⊢
  clear hnl
  have hmk := mk_u8 n (by omega)
  have HPL := hid hpl
  have HLT := hid hlt
  have HD := hid hd
  have HP := hid hp
  have HLL := hid hl
  clear hpl hlt hd hp hl
  have hb : Below w.heap.size w ((w.alloc (Obj.cells #[Value.slice none 0 0, Value.pointer none, Value.slice none 0 0, Value.slice none 0 0] 101)).alloc (zrow n)) := ((Below.refl _ _).alloc (Nat.le_refl _) _).alloc (by simp) _
  have ho := own_zrow (w.alloc (Obj.cells #[Value.slice none 0 0, Value.pointer none, Value.slice none 0 0, Value.slice none 0 0] 101)) n
  rw [World.size_alloc, ← upTo_zero n (fun i => l.getD i 0)] at ho
  have hres : ((w.alloc (Obj.cells #[Value.slice none 0 0, Value.pointer none, Value.slice none 0 0, Value.slice none 0 0] 101)).alloc (zrow n)).heap[w.heap.size]? = some (Obj.cells #[Value.slice none 0 0, Value.pointer none, Value.slice none 0 0, Value.slice none 0 0] 101) := heap_alloc (heap_new _ _) _
  have HRES := hid hres
  clear hres
  go_enter Tryd.func53, Tryd.ntmps53
  go_wp2
  clear hmk
  go_loopw [13] (fun i wr => ∃ k : Nat, k ≤ n ∧ i = .int .i64 k ∧ Own wr (w.heap.size + 1) (upTo n (fun i => l.getD i 0) k) ∧ Below w.heap.size w wr ∧ Hid (wr.heap[w.heap.size]? = some (Obj.cells #[Value.slice none 0 0, Value.pointer none, Value.slice none 0 0, Value.slice none 0 0] 101))) (fun i _ => n - (intOf i).toNat)
  case atStart => exact ⟨0, by omega, rfl, ho, hb, HRES⟩
  case round =>
    clear ho hb HRES
    obtain ⟨k, hk, rfl, ho, hb, HRES⟩ := hrel
    by_cases hlt : k < n
    · have hc := (Ps.below HP.out hb)
      obtain ⟨a', c', h1, h3⟩ := hc
      obtain ⟨b', o', ha, hc⟩ := h3 (by intro e; rw [e] at HN; have := HN.out; simp at this; omega)
      simp only [Value.slice.injEq] at h1
      obtain ⟨h4, h5, h6⟩ := h1
      rw [ha] at h4
      simp only [Option.some.injEq, Addr.mk.injEq, and_true] at h4
      obtain ⟨rfl, rfl⟩ := h4
      have hck := hc k (by rw [← HN.out]; exact hlt)
      have c1 := hck.1
      have c2 := hck.2
      rw [HPL.out k (by rw [← HN.out]; exact hlt)] at c1
      have hlk : l.getD k 0 < 256 := by
        rw [List.getD_eq_getElem?_getD, List.getElem?_eq_getElem (by rw [HLL.out, ← HN.out]; exact hlt)]
        exact HLT.out _ (List.getElem_mem _)
      have hst := upTo_set n (fun i => l.getD i 0) k
      have HST := hid hst
      clear hst h3 hc hck h5 h6 ha
      have co := ho.cell k (by rw [upTo_length]; exact hlt)
      have fo := ho.free k
      have hsz : w.heap.size + 1 < wr.heap.size := ho.lt
      generalize hpk : l.getD k 0 = pk at *
      have HPK := hid hpk
      clear hpk
      go_wp2
      go_roundw
      case rel =>
        refine ⟨k + 1, by omega, by go_num, ?_, ?_, ?_⟩
        · rw [← HST.out]
          exact ((ho.set k pk).alloc _)
        · exact (hb.setCell (by simp) _).alloc (by have := hb.size; simp; omega) _
        · exact heap_alloc ((Below.heap_setCell _ _ _ _ (by simp)).trans HRES.out) _
      case measure => simp [intOf]; omega
    · obtain rfl : k = n := by omega
      have hall : upTo k (fun i => l.getD i 0) k = l := by
        rw [upTo_all, HN.out, ← HLL.out, range_getD]
      rw [hall] at ho
      have hkl : k = l.length := by rw [HLL.out, HN.out]
      have HKL := hid hkl
      clear hall hkl
      have hBr := hB.below hb hB.lt
      have hbs := ho.bs HLT.out k
      rw [← HKL.out] at hbs
      have hsz : w.heap.size + 1 < wr.heap.size := ho.lt
      go_wp2_with fail
      refine (newLagrange_n fb (w.heap.size + 1) 0 k k l HKL.out _ hBr hbs hn HD.out).mono ?_
      rintro e w2 ⟨sb, hsb, rfl, hos, hb2⟩
      have hr2 := (hb2.block w.heap.size (by omega)).trans HRES.out
      have q0 := cell_of_heap hr2 0
      have q1 := cell_of_heap hr2 1
      have q2 := cell_of_heap hr2 2
      have q3 := cell_of_heap hr2 3
      have f0 := free_of_heap hr2 0
      have f1 := free_of_heap hr2 1
      have f2 := free_of_heap hr2 2
      have f3 := free_of_heap hr2 3
      clear hr2
      go_wp2
      refine bodyPost_ret (v := .agg #[.slice (some ⟨b, o, none⟩) k c, .pointer (some ⟨fb, 0, none⟩), .slice (some ⟨w.heap.size + 1, 0, none⟩) k k, .slice (some ⟨sb, 0, none⟩) k k]) (by simp [results, Tryd.results53, go_sem, q0, q1, q2, q3]) rfl ⟨w.heap.size + 1, sb, by omega, by omega, rfl, ?_, ?_, ?_⟩
      · exact (((((ho.below hb2 ho.lt).setCell (by simp) _).setCell (by simp) _).setCell (by simp) _).setCell (by simp) _)
      · exact (((hos.setCell (by simp; omega) _).setCell (by simp; omega) _).setCell (by simp; omega) _).setCell (by simp; omega) _
      · exact ((((hb.trans (hb2.mono (by omega))).setCell (by simp) _).setCell (by simp) _).setCell (by simp) _).setCell (by simp) _
theorem newSource_n (fb b o c n : Nat) (ps : List (Int × Sl)) (l : List Nat) (hnp : n = ps.length) (w : World) (hB : Built w fb) (hp : Ps w (.slice (some ⟨b, o, none⟩) n c) ps) (h0 : n ≠ 0) (hn : n ≤ 256)
    (hl : l.length = ps.length) (hpl : ∀ i, (h : i < ps.length) → ps[i].1 = ((l.getD i 0 : Nat) : Int)) (hlt : ∀ n ∈ l, n < 256) (hd : l.Nodup) :
    Calls Tryd.prog 53 #[.pointer (some ⟨fb, 0, none⟩), .slice (some ⟨b, o, none⟩) n c] w fun e w' => ∃ pb sb, w.heap.size ≤ pb ∧ w.heap.size ≤ sb ∧ e = .returned (.agg #[.slice (some ⟨b, o, none⟩) n c, .pointer (some ⟨fb, 0, none⟩), .slice (some ⟨pb, 0, none⟩) n n, .slice (some ⟨sb, 0, none⟩) n n]) ∧ Own w' pb l ∧ Own w' sb (scales l) ∧ Below w.heap.size w w' := by
  subst hnp
  exact newSource_any fb b o c ps l w hB hp h0 hn hl hpl hlt hd
end Go.Proofs.YtehjikogdaclgaaDoor

namespace Go.Proofs.YtehjikogdaclgaaDoor
open Go.RowKit

/-- the sum of the first k values of f -/
def sx (f : Nat → Nat) : Nat → Nat | 0 => 0 | k + 1 => sx f k ^^^ f k
/-- the sum of the first k rows times their weights -/
def mixL (D : List (List Nat)) (ws : List Nat) (L k : Nat) : List Nat := (List.range L).map fun c => sx (fun i => Gf.tm (ws.getD i 0) ((D.getD i []).getD c 0)) k
theorem sx_lt (f : Nat → Nat) (h : ∀ i, f i < 256) : ∀ k, sx f k < 256
  | 0 => by show 0 < 256; omega
  | k + 1 => Gf.xor_lt (sx_lt f h k) (h k)
theorem sx_congr {f g : Nat → Nat} : ∀ k, (∀ i, i < k → f i = g i) → sx f k = sx g k
  | 0, _ => rfl
  | k + 1, h => by show sx f k ^^^ f k = sx g k ^^^ g k; rw [sx_congr k (fun i hi => h i (by omega)), h k (by omega)]
theorem mixL_length (D : List (List Nat)) (ws : List Nat) (L k : Nat) : (mixL D ws L k).length = L := by simp [mixL]
theorem mixL_getD (D : List (List Nat)) (ws : List Nat) (L k c : Nat) (hc : c < L) : (mixL D ws L k).getD c 0 = sx (fun i => Gf.tm (ws.getD i 0) ((D.getD i []).getD c 0)) k := by
  unfold mixL
  rw [List.getD_eq_getElem?_getD, List.getElem?_map, List.getElem?_range hc]; rfl
theorem mixL_zero (D : List (List Nat)) (ws : List Nat) (L : Nat) : mixL D ws L 0 = List.replicate L 0 := by
  apply List.ext_getElem?
  intro i
  unfold mixL
  by_cases hi : i < L
  · simp [hi, sx]
  · rw [List.getElem?_eq_none (by simp; omega), List.getElem?_eq_none (by simp; omega)]
theorem ext_getD {a b : List Nat} (h : a.length = b.length) (he : ∀ i, i < a.length → a.getD i 0 = b.getD i 0) : a = b := by
  apply List.ext_getElem?
  intro i
  by_cases hi : i < a.length
  · have := he i hi
    rw [List.getD_eq_getElem?_getD, List.getD_eq_getElem?_getD] at this
    rw [List.getElem?_eq_getElem hi, List.getElem?_eq_getElem (by omega)] at this ⊢
    exact congrArg some this
  · rw [List.getElem?_eq_none (by omega), List.getElem?_eq_none (by omega)]
theorem mixL_step (D : List (List Nat)) (ws : List Nat) (L k : Nat) : axTo (mixL D ws L k) 0 (D.getD k []) (ws.getD k 0) L = mixL D ws L (k + 1) := by
  apply ext_getD
  · rw [axTo_length, mixL_length, mixL_length]
  · intro i hi
    rw [axTo_length, mixL_length] at hi
    rw [axTo_getD _ _ _ _ _ (by rw [mixL_length]; omega), if_pos (by omega), mixL_getD _ _ _ _ _ hi, mixL_getD _ _ _ _ _ hi]
    rfl
theorem mixL_skip (D : List (List Nat)) (ws : List Nat) (L k : Nat) (h : ws.getD k 0 = 0) : mixL D ws L (k + 1) = mixL D ws L k := by
  unfold mixL
  apply List.map_congr_left
  intro c _
  show sx _ k ^^^ Gf.tm (ws.getD k 0) _ = _
  rw [h, Gf.tm_zero_left, Nat.xor_zero]
theorem mixL_lt (D : List (List Nat)) (ws : List Nat) (L k : Nat) (hw : ∀ i, ws.getD i 0 < 256) : ∀ n ∈ mixL D ws L k, n < 256 := by
  intro n hn
  unfold mixL at hn
  obtain ⟨c, _, rfl⟩ := List.mem_map.1 hn
  exact sx_lt _ (fun i => Gf.tm_lt _ _ (hw i)) k
theorem getD_lt {l : List Nat} (h : ∀ n ∈ l, n < 256) (i : Nat) : l.getD i 0 < 256 := by
  rw [List.getD_eq_getElem?_getD]
  by_cases hi : i < l.length
  · rw [List.getElem?_eq_getElem hi]; exact h _ (List.getElem_mem _)
  · rw [List.getElem?_eq_none (by omega)]; show 0 < 256; omega
/-- the cells of one piece -/
theorem Ps.cells {w : World} {b o k c : Nat} {ps : List (Int × Sl)} (h : Ps w (.slice (some ⟨b, o, none⟩) k c) ps) (i : Nat) (hi : i < ps.length) : w.cell? ⟨b, o + i * 2, none⟩ = some (.int .i64 ps[i].1) ∧ w.cell? ⟨b, o + i * 2 + 1, none⟩ = some (.slice ps[i].2.1 ps[i].2.2.1 ps[i].2.2.2) := by
  obtain ⟨a', c', h1, h3⟩ := h
  obtain ⟨b', o', ha, hc⟩ := h3 (by intro e; rw [e] at hi; exact absurd hi (Nat.not_lt_zero _))
  simp only [Value.slice.injEq] at h1
  obtain ⟨h4, _, _⟩ := h1
  rw [ha] at h4
  simp only [Option.some.injEq, Addr.mk.injEq, and_true] at h4
  obtain ⟨rfl, rfl⟩ := h4
  exact hc i hi

set_option maxRecDepth 100000 in
set_option maxHeartbeats 1000000 in
theorem piece_any (fb b o c pb po pc sb so sc k L x : Nat) (ps : List (Int × Sl)) (l : List Nat) (D : List (List Nat)) (w : World) (hB : Built w fb) (hp : Ps w (.slice (some ⟨b, o, none⟩) k c) ps) (hk1 : k ≠ 0) (hk : k ≤ 256) (hkp : k = ps.length) (hkl : k = l.length)
    (hD : ∀ i, (h : i < ps.length) → Bs w (.slice ps[i].2.1 ps[i].2.2.1 ps[i].2.2.2) (D.getD i []) ∧ (D.getD i []).length = L)
    (hl : Bs w (.slice (some ⟨pb, po, none⟩) k pc) l) (hs : Bs w (.slice (some ⟨sb, so, none⟩) k sc) (scales l)) (hx : x < 256) (hL : L ≤ 1000000) :
    Calls Tryd.prog 54 #[.agg #[.slice (some ⟨b, o, none⟩) k c, .pointer (some ⟨fb, 0, none⟩), .slice (some ⟨pb, po, none⟩) k pc, .slice (some ⟨sb, so, none⟩) k sc], .int .i64 x] w fun e w' => ∃ ob, w.heap.size ≤ ob ∧ e = .returned (.slice (some ⟨ob, 0, none⟩) L L) ∧ Own w' ob (mixL D (wts l (scales l) x) L k) ∧ Below w.heap.size w w' := by
  obtain ⟨a00, c00, g0⟩ : ∃ a0 c0, w.cell? ⟨b, o + 1, none⟩ = some (.slice a0 L c0) := by
    have h1 := (hp.cells 0 (by omega)).2
    have h2 := (hD 0 (by omega)).1.len
    rw [(hD 0 (by omega)).2] at h2
    rw [h2, Nat.zero_mul, Nat.add_zero] at h1
    exact ⟨_, _, h1⟩
  have HD := hid hD
  have HP := hid hp
  have HKP := hid hkp
  have HKL := hid hkl
  clear hD hp hkp hkl
  have hmk := mk_u8 L (by omega)
  have hbb := World.block_lt_of_cell? _ _ g0
  have g1 : ∀ o', (w.alloc o').cell? ⟨b, o + 1, none⟩ = some (.slice a00 L c00) := fun o' => by rw [World.cell?_alloc_past _ _ _ hbb]; exact g0
  have hb0 : Below w.heap.size w ((w.alloc (Obj.cells #[Value.slice (some ⟨b, o, none⟩) k c, Value.pointer (some ⟨fb, 0, none⟩), Value.slice (some ⟨pb, po, none⟩) k pc, Value.slice (some ⟨sb, so, none⟩) k sc] 101)).alloc (zrow L)) := ((Below.refl _ _).alloc (Nat.le_refl _) _).alloc (by simp) _
  have ho0 := own_zrow (w.alloc (Obj.cells #[Value.slice (some ⟨b, o, none⟩) k c, Value.pointer (some ⟨fb, 0, none⟩), Value.slice (some ⟨pb, po, none⟩) k pc, Value.slice (some ⟨sb, so, none⟩) k sc] 101)) L
  rw [World.size_alloc] at ho0
  have hbox : ((w.alloc (Obj.cells #[Value.slice (some ⟨b, o, none⟩) k c, Value.pointer (some ⟨fb, 0, none⟩), Value.slice (some ⟨pb, po, none⟩) k pc, Value.slice (some ⟨sb, so, none⟩) k sc] 101)).alloc (zrow L)).heap[w.heap.size]? = some (Obj.cells #[Value.slice (some ⟨b, o, none⟩) k c, Value.pointer (some ⟨fb, 0, none⟩), Value.slice (some ⟨pb, po, none⟩) k pc, Value.slice (some ⟨sb, so, none⟩) k sc] 101) := heap_alloc (heap_new _ _) _
  have HBOX := hid hbox
  clear hbox g0
  have hl1 := hl.below hb0
  have hs1 := hs.below hb0
  have hB1 := hB.below hb0 hB.lt
  have HWL := hid (fun i => getD_lt (wts_lt l (scales l) x) i)
  have hwn : (wts l (scales l) x).length = k := by rw [wts_length]; exact HKL.out.symm
  have HWN := hid hwn
  have HWA := hid (wts_lt l (scales l) x)
  clear hwn
  go_enter Tryd.func54, Tryd.ntmps54
  go_wp2_with fail
  refine (weights_n fb pb po pc sb so sc k l (scales l) x HKL.out hx _ hB1 hl1 hs1 hk).mono ?_
  rintro e w2 ⟨ob, hob, rfl, how, hb2⟩
  generalize hws : wts l (scales l) x = ws at *
  have HWS := hid hws
  clear hws
  generalize hw1 : (w.alloc (Obj.cells #[Value.slice (some ⟨b, o, none⟩) k c, Value.pointer (some ⟨fb, 0, none⟩), Value.slice (some ⟨pb, po, none⟩) k pc, Value.slice (some ⟨sb, so, none⟩) k sc] 101)).alloc (zrow L) = w1 at *
  clear hw1 g1 hmk hl1 hs1
  have hsz1 : w.heap.size + 1 < w1.heap.size := ho0.lt
  have ho2 := ho0.below hb2 hsz1
  have hB2 := hB1.below hb2 hB1.lt
  have hb3 : Below w.heap.size w w2 := hb0.trans (hb2.mono (by omega))
  have hbox2 := (hb2.block w.heap.size (by omega)).trans HBOX.out
  have HBOX2 := hid hbox2
  have hobs := hob
  clear hbox2 HBOX ho0 hb0 hb2 hB1 hob
  rw [← mixL_zero D ws L] at ho2
  have hobl := how.lt
  go_wp2
  go_loopw [6, 7, 21] (fun _ _ j wr => ∃ i : Nat, i ≤ k ∧ j = .int .i64 i ∧ Own wr (w.heap.size + 1) (mixL D ws L i) ∧ Below w.heap.size w wr ∧ Built wr fb ∧ Own wr ob ws ∧ Hid (wr.heap[w.heap.size]? = some (Obj.cells #[Value.slice (some ⟨b, o, none⟩) k c, Value.pointer (some ⟨fb, 0, none⟩), Value.slice (some ⟨pb, po, none⟩) k pc, Value.slice (some ⟨sb, so, none⟩) k sc] 101))) (fun _ _ j _ => k - (intOf j).toNat)
  case atStart => exact ⟨0, by omega, rfl, ho2, hb3, hB2, how, HBOX2⟩
  case round =>
    clear ho2 hb3 hB2 how HBOX2 hobl
    obtain ⟨i, hi, rfl, ho2, hb3, hB2, how, HBOX2⟩ := hrel
    by_cases hlt : i < k
    · have cw := how.cell i (by rw [HWN.out]; exact hlt)
      have hwl := HWL.out i
      generalize hwi : ws.getD i 0 = wi at *
      by_cases hw0 : wi = 0
      · have hb1 : ((wi : Int) != 0) = false := by simp [hw0]
        have hst := mixL_skip D ws L i (by rw [hwi, hw0])
        have HST := hid hst
        clear hst hw0 hwi
        go_wp2
        refine ⟨⟨i + 1, by omega, by go_num, ?_, hb3, hB2, how, HBOX2⟩, by simp [intOf]; omega⟩
        rw [HST.out]; exact ho2
      · have hb1 : ((wi : Int) != 0) = true := by simp; omega
        have hst := mixL_step D ws L i
        rw [hwi] at hst
        have HST := hid hst
        clear hst hw0 hwi
        have hcp := ((Ps.below HP.out hb3).cells i (by rw [← HKP.out]; exact hlt)).2
        have hdi := HD.out i (by rw [← HKP.out]; exact hlt)
        have hbd := hdi.1.below hb3
        have hlen := hdi.2
        have HD1 := hid hdi.1
        have hbl := hdi.1.len
        generalize ps[i].2.1 = da at *
        generalize ps[i].2.2.1 = dn at *
        generalize ps[i].2.2.2 = dc at *
        rw [hlen] at hbl
        subst hbl
        clear hdi
        have e0 : wr.cell? ⟨w.heap.size, 0, none⟩ = some (Value.slice (some ⟨b, o, none⟩) k c) := cell_of_heap HBOX2.out 0
        have e1 : wr.cell? ⟨w.heap.size, 1, none⟩ = some (Value.pointer (some ⟨fb, 0, none⟩)) := cell_of_heap HBOX2.out 1
        have HCP := hid hcp
        go_wp2
        refine region_quiet_tail 11 (by kernel_rfl) (by kernel_rfl) ?_
        simp only [List.take_succ_cons, List.take_zero, List.drop_succ_cons, List.drop_zero]
        repeat (quiet_step (fail))
        refine wpQuiet_nil ?_
        intro nq
        have hoff : 0 < dn → Off (w.heap.size + 1) (.slice da dn dc) := fun h => (HD1.out).off_ge (by intro e; rw [e] at hlen; simp at hlen; omega) (by omega)
        have hfs : fb ≠ w.heap.size + 1 := by have := hB.lt; omega
        go_wp2_with fail
        refine (addScaled_bs fb (w.heap.size + 1) 0 dn dn (mixL D ws dn i) da dc (D.getD i []) wi _ (hB2.drewN nq) (ho2.drewN nq) hfs (by rw [mixL_length]; omega) (hbd.drewN nq) hoff (by omega) hwl (fun j => getD_lt (mixL_lt D ws dn i HWL.out) j)).mono ?_
        rintro e w3 ⟨rfl, ho3, hk3⟩
        rw [HST.out] at ho3
        have hk4 : Kept (w.heap.size + 1) wr w3 := ⟨hk3.os, hk3.tape, hk3.output, hk3.size, hk3.block⟩
        have hszr : w.heap.size + 1 < wr.heap.size := ho2.lt
        go_wp2
        refine ⟨⟨i + 1, by omega, by go_num, ho3, ?_, ?_, ?_, ?_⟩, by simp [intOf]; omega⟩
        · exact hb3.trans (hk4.below (by omega) (by omega))
        · exact (hk4.block fb hB2.lt hfs).trans hB2
        · exact (hk4.block ob how.lt (by omega)).trans how
        · exact (hk4.block w.heap.size (by omega) (by omega)).trans HBOX2.out
    · obtain rfl : i = k := by omega
      go_wp2
      go_ret
      exact ⟨w.heap.size + 1, by omega, rfl, by rw [HWS.out]; exact ho2, hb3⟩
end Go.Proofs.YtehjikogdaclgaaDoor
