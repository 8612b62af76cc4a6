/-
  copyManifest and the first piece that a Gather takes. · A store of many cells into a block, and what lies there then. (Split off DecMan.) · A copy that may be written: bytes.Clone. · The first piece that a Gather takes: Offer. · The mathematics of known: the ranking of three peers for one object. · The reference's Bytes: the bytes of a manifest. · digest.ID and the reference's Id. · The load of a long array behind a guard, in a class region. (Split off Asm.)
-/
import Derived.Test.YtjgiiciniplbnaaGreatDoorKa7
import Derived.Deep.RegionLawGrows
import Derived.Test.YtjgiiciniplbnaaGreatDoorKa4
import Derived.Test.YtjgiiciniplbnaaGreatDoorKa3
import Derived.Test.YtjgiiciniplbnaaGreatDoorKa5
namespace Go.Proofs.YtjgiiciniplbnaaGreatDoor
open Go Go.RowKit Go.Lib Go.Sort
set_option linter.unusedVariables false

set_option maxRecDepth 100000 in
set_option maxHeartbeats 2000000 in
theorem CloneD_any (a : Option Addr) (m c : Nat) (D : List (List Nat)) (w : World) (hb : Dgs w a m c D) (hm : m ≤ 100000) :
    Calls Tryz.prog 102 #[.slice a m c] w fun e w' => ∃ a' c', e = .returned (.slice a' m c') ∧ Dgs w' a' m c' D ∧ (∀ ad, a' = some ad → w.heap.size ≤ ad.block) ∧ Below w.heap.size w w' := by
  cases a with
  | none =>
    obtain rfl := hb.nil rfl
    obtain rfl : m = 0 := by have := hb.cap; omega
    have HB := hid hb
    have hq : (binOp .eql 60 (.slice none 0 0) (.slice none 0 0)).run Tryz.prog w = .ok (.bool true) w := run_eql_slice_nil w _ _ none 0 0 Tryz.underlying60
    clear hb
    go_enter Tryz.func102, Tryz.ntmps102
    go_wp2
    go_ret
    exact ⟨none, 0, rfl, HB.out, (fun ad h => by cases h), Below.refl _ _⟩
  | some ad =>
    have HB := hid (hb.below ((Below.refl _ _).alloc (Nat.le_refl _) (.cells #[] 23)))
    have HNW := hid (heap_new w (.cells #[] 23))
    have hq : (binOp .eql 60 (.slice (some ad) m c) (.slice none 0 0)).run Tryz.prog w = .ok (.bool false) w := run_eql_slice_nil w _ _ (some ad) m c Tryz.underlying60
    clear hb
    go_enter Tryz.func102, Tryz.ntmps102
    go_wp2_with (refine wpList_cloneD (by rfl) (.tmp 5) (.tmp 6) (by rfl) w.heap.size (by rfl) HNW.out (some ad) m c D (by rfl) HB.out hm ?_
                 intro a5 c5 w5 hd5 hl5 hk5)
    go_ret
    exact ⟨a5, c5, rfl, hd5, hl5, (((Below.refl w.heap.size w).alloc (Nat.le_refl _) (.cells #[] 23))).trans (hk5.below (by simp) (Nat.le_refl _))⟩
set_option maxRecDepth 100000 in
set_option maxHeartbeats 2000000 in
theorem copy_man (k n t s : Int) (od : List Nat) (a : Option Addr) (m c : Nat) (D : List (List Nat)) (w : World) (hod : od.length = 32) (hb : Dgs w a m c D) (hm : m ≤ 100000) :
    Calls Tryz.prog 75 #[.agg (mcells k n t s od (.slice a m c)).toArray] w fun e w' => ∃ a' c', e = .returned (.agg (mcells k n t s od (.slice a' m c')).toArray) ∧ Dgs w' a' m c' D ∧ (∀ ad, a' = some ad → w.heap.size ≤ ad.block) ∧ Below w.heap.size w w' := by
  obtain ⟨w2, hw2⟩ : ∃ y, y = (w.alloc (.cells (mcells k n t s od (.slice a m c)).toArray 62)).alloc (.cells mz 62) := ⟨_, rfl⟩
  have hs1 : (w.alloc (.cells (mcells k n t s od (.slice a m c)).toArray 62)).heap.size = w.heap.size + 1 := by simp
  have hb2 : Below w.heap.size w w2 := by rw [hw2]; exact ((Below.refl _ _).alloc (Nat.le_refl _) _).alloc (by simp) _
  have HM2 := hid (show ManAt w2 w.heap.size k n t s od (.slice a m c) from by
    rw [hw2]
    exact (heap_alloc_old _ _ (by simp)).trans (heap_new _ _))
  have HR2 := hid (show w2.heap[w.heap.size + 1]? = some (.cells mz 62 (0, 0)) from by rw [hw2, ← hs1]; exact heap_new _ _)
  have HB2 := hid hb2
  have hsz2 : w.heap.size + 1 < w2.heap.size := lt_of_heap HR2.out
  have HCL := hid (CloneD_any a m c D w2 (hb.below hb2) hm)
  have HOD := hid hod
  have d36 := (HM2.out.c hod).2.2.2.2
  have hlt2 : w.heap.size < w2.heap.size := by omega
  have HS := hid hsz2
  have HST := hid (fun (w5 : World) (k5 : Below w2.heap.size w2 w5) => (show ManAt w5 w.heap.size k n t s od (.slice a m c) ∧ w5.heap[w.heap.size + 1]? = some (.cells mz 62 (0, 0)) ∧ Below w.heap.size w w5 from
    ⟨(k5.block _ hlt2).trans HM2.out, (k5.block _ hsz2).trans HR2.out, HB2.out.trans (k5.mono HB2.out.size)⟩))
  clear hs1 hb2 hb hod hlt2 hsz2
  go_enter Tryz.func75, Tryz.ntmps75
  go_upto_region 1 with fail
  change Code.wp _ _ _ _ ((w.alloc (.cells (mcells k n t s od (.slice a m c)).toArray 62)).alloc (.cells mz 62))
  rw [← hw2]
  clear hw2
  go_wp2_with fail
  refine HCL.out.mono ?_
  rintro e w5 ⟨a5, c5, rfl, hd5, hl5, hk5⟩
  have h5 := HST.out w5 hk5
  have g36 := (h5.1.c HOD.out).2.2.2.2
  have f36 := free_of_heap h5.1 36
  have HM6 := hid (man_rowO h5.1 HOD.out (.slice a5 m c5))
  have HR6 := hid (show (w5.setCell ⟨w.heap.size, 36, none⟩ (.slice a5 m c5)).heap[w.heap.size + 1]? = some (.cells mz 62 (0, 0)) from (heap_setCell_other w5 _ _ _ (by show w.heap.size + 1 ≠ w.heap.size; omega)).trans h5.2.1)
  have HB6 := hid (show Below w.heap.size w (w5.setCell ⟨w.heap.size, 36, none⟩ (.slice a5 m c5)) from h5.2.2.setCell (Nat.le_refl _) _)
  have HD5 := hid hd5
  have HL5 := hid hl5
  have HRA := hid (show (w5.setCell ⟨w.heap.size, 36, none⟩ (.slice a5 m c5)).rangeAt w.heap.size 0 (mcells k n t s od (.slice a5 m c5)) from range_of_heapO HM6.out)
  have HML := hid (mcells_length k n t s od (.slice a5 m c5) HOD.out)
  have HON := hid (mcells_one k n t s od a5 m c5)
  have HIFa := hid (show (Tryz.prog.info? 62).map (·.size) = some (mcells k n t s od (.slice a5 m c5)).length from by rw [HML.out]; kernel_rfl)
  have HIFb := hid (show (Tryz.prog.info? 62).map (·.size) = some (mcells k n t s od (.slice a5 m c5)).toArray.size from by rw [List.size_toArray, HML.out]; kernel_rfl)
  have HSZb := hid (show mz.size = (mcells k n t s od (.slice a5 m c5)).toArray.size from by rw [mz_sizeO]; rw [List.size_toArray, HML.out])
  clear hd5 hl5 hk5 h5
  go_wp2_with (first
    | (refine wpList_load_mid (by rfl) 62 (.tmp 1) (by rfl) w.heap.size 0 (by rfl) (mcells k n t s od (.slice a5 m c5)) _ HRA.out Tryz.underlying62 rfl HIFa.out ?_)
    | (refine wpList_store_row (by rfl) 62 (.tmp 2) (.tmp 7) (by rfl) (w.heap.size + 1) _ (mcells k n t s od (.slice a5 m c5)).toArray _ (by rfl) (by rfl) HR6.out HIFb.out HSZb.out HON.out ?_
       intro w8 hw8 hk8))
  have hres := run_loadVar_row (P := Tryz.prog) _ _ 62 62 _ (0, 0) _ hw8 Tryz.underlying62 rfl HIFb.out
  have hs2 := HS.out
  refine bodyPost_ret (v := .agg (mcells k n t s od (.slice a5 m c5)).toArray) (results_at Tryz.results75 rfl hres) rfl ⟨a5, c5, rfl, ?_, fun ad e => by have := HL5.out ad e; omega, HB6.out.trans (hk8.below HB6.out.size (by omega))⟩
  exact (HD5.out.kept ((Kept.refl w.heap.size w5).setCell (p := ⟨w.heap.size, 36, none⟩) rfl (.slice a5 m c5)) (fun ad e => by have := HL5.out ad e; omega)).kept hk8 (fun ad e => by have := HL5.out ad e; omega)
end Go.Proofs.YtjgiiciniplbnaaGreatDoor

namespace Go.Proofs.YtjgiiciniplbnaaGreatDoor
open Go Go.RowKit
set_option linter.unusedVariables false

theorem setCells_at (b : Nat) (t : TypeId) : ∀ (vs : List Value) (o : Nat) (w : World) (cs : List Value), w.heap[b]? = some (.cells cs.toArray t (0, 0)) → o + vs.length ≤ cs.length → (w.setCells b o vs).heap[b]? = some (.cells (cs.take o ++ vs ++ cs.drop (o + vs.length)).toArray t (0, 0))
  | [], o, w, cs, h, _ => by
    show w.heap[b]? = _
    rw [h, List.append_nil, List.length_nil, Nat.add_zero, List.take_append_drop]
  | v :: r, o, w, cs, h, hl => by
    simp only [List.length_cons] at hl
    have h1 := heap_set h o v
    rw [List.setIfInBounds_toArray] at h1
    have ih := setCells_at b t r (o + 1) (w.setCell ⟨b, o, none⟩ v) (cs.set o v) h1 (by rw [List.length_set]; omega)
    show ((w.setCell ⟨b, o, none⟩ v).setCells b (o + 1) r).heap[b]? = _
    rw [ih]
    congr 3
    rw [List.take_succ_eq_append_getElem (by rw [List.length_set]; omega), List.take_set, List.set_eq_of_length_le (by simp only [List.length_take]; omega), List.getElem_set_self, List.drop_set_of_lt (by omega), List.length_cons, show o + 1 + r.length = o + (r.length + 1) from by omega]
    simp
/-- a store of many cells into a block -/
theorem wpList_store_midD {P : Program} {ops : Array Oper} {rest : List Oper} {o : Oper} {a : Act} {w : World} {Q : Exit → Act → World → Prop} (hgd : o.guard = none) (ty : TypeId) (x y : Operand) (ho : o.op = .store ty x y)
    (b off : Nat) (cells : Array Value) (hx : a.eval x = .pointer (some ⟨b, off, none⟩)) (hy : a.eval y = .agg cells) (ht : w.there b off cells.size) (hi : (P.info? ty).map (·.size) = some cells.size) (h1 : cells.all (·.oneCell') = true)
    (h : wpList P ops Q rest (a.put o.dst undef) (w.setCells b off cells.toList)) : wpList P ops Q (o :: rest) a w :=
  wpList_plain hgd fun _ hK => wp_store_mid ty x y ho b off cells hx hy ht hi h1 (hK _ _ h)
/-- .. and what lies there then -/
theorem wpList_store_midK {P : Program} {ops : Array Oper} {rest : List Oper} {o : Oper} {a : Act} {w : World} {Q : Exit → Act → World → Prop} (hgd : o.guard = none) (ty : TypeId) (x y : Operand) (ho : o.op = .store ty x y)
    (b off : Nat) (vs cs : List Value) (T : TypeId) (hx : a.eval x = .pointer (some ⟨b, off, none⟩)) (hy : a.eval y = .agg vs.toArray) (hg : w.heap[b]? = some (.cells cs.toArray T (0, 0))) (hf : off + vs.length ≤ cs.length) (hi : (P.info? ty).map (·.size) = some vs.toArray.size) (h1 : vs.toArray.all (·.oneCell') = true)
    (h : ∀ w', w'.heap[b]? = some (.cells (cs.take off ++ vs ++ cs.drop (off + vs.length)).toArray T (0, 0)) → Kept b w w' → wpList P ops Q rest (a.put o.dst undef) w') : wpList P ops Q (o :: rest) a w :=
  wpList_store_midD hgd ty x y ho b off vs.toArray hx hy (by rw [List.size_toArray]; exact there_sub (there_of_heap hg List.size_toArray) off _ hf) hi h1
    (h _ (setCells_at b T vs off w cs hg hf) (setCells_kept b vs off w))
end Go.Proofs.YtjgiiciniplbnaaGreatDoor

namespace Go.Proofs.YtjgiiciniplbnaaGreatDoor
open Go Go.RowKit
set_option linter.unusedVariables false

/-- a copy of bytes in memory of its own, which may be written -/
def Copied2 (w : World) (n : Nat) (l : List Nat) (e : Value) (w' : World) : Prop := ∃ a c, e = .slice a n c ∧ n ≤ c ∧ Bs w' (.slice a n c) l ∧ (a = none → c = 0) ∧ (∀ ad, a = some ad → w.heap.size ≤ ad.block ∧ ad.block < w'.heap.size) ∧ Below w.heap.size w w' ∧ w'.ownsRow w.heap.size 5 1 (.slice a n c) n (u8s l)
set_option maxRecDepth 100000 in
set_option maxHeartbeats 2000000 in
theorem Clone2_any (a : Option Addr) (n c : Nat) (l : List Nat) (w : World) (hb : Bs w (.slice a n c) l) (hnil : a = none → c = 0) (hn : n ≤ 100000000000) :
    Calls Tryz.prog 76 #[.slice a n c] w fun e w' => ∃ v, e = .returned v ∧ Copied2 w n l v w' := by
  cases a with
  | none =>
    obtain rfl := hnil rfl
    have h0 : l = [] := by
      rcases hb.addr with ⟨h0, _⟩ | ⟨_, b, o, c', hv⟩
      · exact h0
      · simp at hv
    subst h0
    have hn0 : n = 0 := hb.len
    subst hn0
    have HB := hid hb
    have hq : (binOp .eql 66 (.slice none 0 0) (.slice none 0 0)).run Tryz.prog w = .ok (.bool true) w := run_eql_slice_nil w _ _ none 0 0 Tryz.underlying66
    clear hb
    go_enter Tryz.func76, Tryz.ntmps76
    go_wp2
    go_ret
    exact ⟨_, rfl, none, 0, rfl, Nat.le_refl _, HB.out, fun _ => rfl, (fun ad h => by cases h), Below.refl _ _, owns_nilD _ _⟩
  | some ad =>
    have HB := hid (hb.alloc (.cells #[] 5))
    have HNW := hid (heap_new w (.cells #[] 5))
    have hq : (binOp .eql 66 (.slice (some ad) n c) (.slice none 0 0)).run Tryz.prog w = .ok (.bool false) w := run_eql_slice_nil w _ _ (some ad) n c Tryz.underlying66
    clear hb hnil
    go_enter Tryz.func76, Tryz.ntmps76
    go_wp2_with (refine wpList_cloneB (by rfl) (.tmp 5) (.tmp 6) (by rfl) w.heap.size (by rfl) HNW.out (some ad) n c l (by rfl) HB.out (fun h => by cases h) (by omega) ?_
                 intro a5 c5 w5 hb5 hc5 hw5 hn5 hk5 hown5)
    go_ret
    refine ⟨_, rfl, a5, c5, rfl, hc5, hb5, hn5, fun q hq => hw5 q hq, ?_, hown5⟩
    exact (((Below.refl w.heap.size w).alloc (Nat.le_refl _) (.cells #[] 5))).trans (hk5.below (by simp) (Nat.le_refl _))
/-- a copy that may be written, or no bytes -/
def CpB (w : World) (g c m : Nat) (a : Option Addr) : Prop := 0 < m → a = some ⟨g, 0, none⟩ ∧ ∃ l : List Nat, l.length = m ∧ (∀ i, l.getD i 0 < 256) ∧ Buf w g c l
theorem set_ltB (l : List Nat) (h : ∀ i, l.getD i 0 < 256) (j y : Nat) (hy : y < 256) : ∀ i, (l.set j y).getD i 0 < 256 := fun i => by
  rw [List.getD_eq_getElem?_getD, List.getElem?_set]
  split
  · split
    · exact hy
    · decide
  · rw [← List.getD_eq_getElem?_getD]; exact h i
theorem cpB_of {w : World} {g0 c m : Nat} {a : Option Addr} {l : List Nat} (h : w.ownsRow g0 5 1 (.slice a m c) m (u8s l)) (hg : g0 < w.heap.size) (hl : ∀ i, l.getD i 0 < 256) : ∃ g, g0 ≤ g ∧ g < w.heap.size ∧ CpB w g c m a := by
  by_cases h0 : 0 < m
  · obtain ⟨g, h1, h2, h3, h4⟩ := buf_of_owns h h0
    exact ⟨g, h2, h3.lt, fun _ => ⟨h1, l, h4.symm, hl, h3⟩⟩
  · exact ⟨g0, Nat.le_refl _, hg, fun h => absurd h h0⟩
theorem CpB.same {w w' : World} {g c m : Nat} {a : Option Addr} (h : CpB w g c m a) (k : w'.heap[g]? = w.heap[g]?) : CpB w' g c m a := fun h0 => by
  obtain ⟨h1, l, h2, h3, h4⟩ := h h0
  exact ⟨h1, l, h2, h3, h4.of_same k⟩
end Go.Proofs.YtjgiiciniplbnaaGreatDoor

namespace Go.Proofs.YtjgiiciniplbnaaGreatDoor
open Go Go.RowKit Go.Lib Go.Sort
set_option linter.unusedVariables false

theorem infoPc : (Tryz.prog.info? 68).map (fun i => (i.zero, i.size, i.bytes)) = some (some (.agg #[.int .i64 0, .slice none 0 0]), 2, 32) := by kernel_rfl
theorem gcl_put (obj : List Nat) (ho : obj.length = 32) (M M' : List Value) (hM : M.length = 37) (hM' : M'.length = 37) (pv : Value) : (gcl obj M pv).take 32 ++ M' ++ (gcl obj M pv).drop (32 + M'.length) = gcl obj M' pv := by
  have h1 : (u8s obj).length = 32 := by simp [u8s, ho]
  have h2 : (u8s obj ++ M).length = 69 := by rw [List.length_append, h1, hM]
  have e1 : (gcl obj M pv).take 32 = u8s obj := by unfold gcl; rw [List.append_assoc, ← h1, List.take_left]
  have e2 : (gcl obj M pv).drop (32 + M'.length) = [pv] := by unfold gcl; rw [hM', show 32 + 37 = (u8s obj ++ M).length from by rw [h2], List.drop_left]
  rw [e1, e2]
  rfl
theorem gth_set {w : World} {gb : Nat} {obj : List Nat} {M : List Value} {pv : Value} (h : GthAt w gb obj M pv) (ho : obj.length = 32) (hM : M.length = 37) (v : Value) : GthAt (w.setCell ⟨gb, 69, none⟩ v) gb obj M v := by
  have e := heap_set h 69 v
  unfold GthAt
  rw [e]
  have h2 : (u8s obj ++ M).length = 69 := by rw [List.length_append, hM]; simp [u8s, ho]
  have e3 : (gcl obj M pv).toArray.setIfInBounds 69 v = (gcl obj M v).toArray := by
    rw [List.setIfInBounds_toArray]
    unfold gcl
    rw [List.set_append_right _ _ (by omega), h2]
    rfl
  rw [e3]
theorem gcl_one (obj : List Nat) (M : List Value) (pv : Value) : (gcl obj M pv).length = obj.length + M.length + 1 := by simp [gcl, u8s]; omega
theorem row_one {w : World} {B : Nat} {T : TypeId} {v x y : Value} (h : w.ownsRow B T 2 v (0 + 1) ([] ++ [x, y])) : ∃ g cap, v = .slice (some ⟨g, 0, none⟩) 1 cap ∧ B ≤ g ∧ w.cell? ⟨g, 0, none⟩ = some x ∧ w.cell? ⟨g, 1, none⟩ = some y := by
  obtain ⟨hl, ⟨_, h0⟩ | ⟨g, cap, cur, hv, h1, h2, h3, h4, h5, h6⟩⟩ := h
  · omega
  · have hc : ∀ j u, [x, y][j]? = some u → w.cell? ⟨g, j, none⟩ = some u := fun j u hj => by
      rw [cell_of_heap h2, ← Array.getElem?_toList, ← hj]
      have hjl : j < 2 := by have := (List.getElem?_eq_some_iff.1 hj).1; simpa using this
      have h7 : cur.toList.take ((0 + 1) * 2) = [x, y] := h6
      rw [← h7, List.getElem?_take_of_lt (by omega)]
    exact ⟨g, cap, by simpa using hv, h1, hc 0 x rfl, hc 1 y rfl⟩
set_option maxRecDepth 100000 in
set_option maxHeartbeats 8000000 in
theorem Offer_first (gb : Nat) (obj : List Nat) (ho : obj.length = 32) (k n t s : Int) (od : List Nat) (hod : od.length = 32) (a : Option Addr) (m c : Nat) (D : List (List Nat)) (w : World) (hD : Dgs w a m c D) (hm : m ≤ 100000)
    (x : Int) (qa : Option Addr) (qn qc : Nat) (pl : List Nat) (hp : Bs w (.slice qa qn qc) pl) (hqn : qa = none → qc = 0) (hql : qn ≤ 100000000000) (hoff : Off gb (.slice qa qn qc))
    (hG : GthAt w gb obj mz0 (.slice none 0 0))
    (HI : ∀ wx, Below w.heap.size w wx → Calls Tryz.prog 74 #[.pointer (some ⟨gb, 0, none⟩), .agg (mcells k n t s od (.slice a m c)).toArray, .agg #[.int .i64 x, .slice qa qn qc]] wx fun e w' => e = .returned (.int .i64 0) ∧ Below wx.heap.size wx w') :
    Calls Tryz.prog 44 #[.pointer (some ⟨gb, 0, none⟩), .agg (mcells k n t s od (.slice a m c)).toArray, .agg #[.int .i64 x, .slice qa qn qc]] w fun e w' =>
      e = .returned (.int .i64 0) ∧ ∃ a' c' a5 c5 rb cap, GthAt w' gb obj (mcells k n t s od (.slice a' m c')) (.slice (some ⟨rb, 0, none⟩) 1 cap) ∧ w'.cell? ⟨rb, 0, none⟩ = some (.int .i64 x) ∧ w'.cell? ⟨rb, 1, none⟩ = some (.slice a5 qn c5) ∧ w.heap.size ≤ rb ∧ Kept gb w w' := by
  obtain ⟨MC, hMCe⟩ : ∃ y, y = mcells k n t s od (.slice a m c) := ⟨_, rfl⟩
  have hMC : MC.length = 37 := by rw [hMCe]; exact mcells_length _ _ _ _ _ _ hod
  have HCM := hid (fun (wx : World) (b : Below w.heap.size w wx) => copy_man k n t s od a m c D wx hod (hD.below b) hm)
  rw [← hMCe] at HI HCM ⊢
  obtain ⟨w0, hw0⟩ : ∃ y, y = (w.alloc (.cells MC.toArray 62)).alloc (.cells #[.int .i64 x, .slice qa qn qc] 68) := ⟨_, rfl⟩
  have hs1 : (w.alloc (.cells MC.toArray 62)).heap.size = w.heap.size + 1 := by simp
  have hb0 : Below w.heap.size w w0 := by rw [hw0]; exact ((Below.refl _ _).alloc (Nat.le_refl _) _).alloc (by simp) _
  have hMA : w0.heap[w.heap.size]? = some (.cells MC.toArray 62 (0, 0)) := by
    rw [hw0]
    exact (heap_alloc_old _ _ (by simp)).trans (heap_new _ _)
  have hPA : w0.heap[w.heap.size + 1]? = some (.cells #[.int .i64 x, .slice qa qn qc] 68 (0, 0)) := by rw [hw0, ← hs1]; exact heap_new _ _
  have HW0 := hid hw0
  have HB0 := hid hb0
  have HMR := hid (range_of_heap hMA)
  have HPA := hid hPA
  have HIM := hid (show (Tryz.prog.info? 62).map (·.size) = some MC.length from by rw [hMC]; kernel_rfl)
  have HCK := hid HI
  have HGA := hid hG
  have HO := hid ho
  have HOD := hid hod
  have HBS := hid hp
  have HOFF := hid hoff
  have hgb : gb < w.heap.size := lt_of_heap hG
  have p0 : w0.cell? ⟨w.heap.size + 1, 0, none⟩ = some (.int .i64 x) := by rw [cell_of_heap hPA]; rfl
  have p1 : w0.cell? ⟨w.heap.size + 1, 1, none⟩ = some (.slice qa qn qc) := by rw [cell_of_heap hPA]; rfl
  clear hw0 hs1 hb0 hMA hPA HI hG ho hMC hMCe hod hp hoff hD
  go_enter Tryz.func44, Tryz.ntmps44
  go_upto_region 1 with fail
  change Code.wp _ _ _ _ ((w.alloc (.cells MC.toArray 62)).alloc (.cells #[.int .i64 x, .slice qa qn qc] 68))
  rw [← HW0.out]
  clear HW0
  go_wp2_with (refine wpList_load_mid (by rfl) 62 (.tmp 4) (by rfl) w.heap.size 0 (by rfl) MC _ HMR.out Tryz.underlying62 rfl HIM.out ?_)
  refine (HCK.out w0 HB0.out).mono ?_
  rintro e w1 ⟨rfl, hb1⟩
  have HB1 := hid (HB0.out.trans (hb1.mono HB0.out.size))
  have HMR1 := hid (range_below HMR.out hb1)
  have HP1 := hid ((hb1.block _ (lt_of_heap HPA.out)).trans HPA.out)
  have HG1 := hid (HGA.out.below HB1.out)
  have c69 : w1.cell? ⟨gb, 69, none⟩ = some (.slice none 0 0) := HG1.out.pv HO.out mz0_length
  clear hb1 p0 p1
  go_wp2_with (refine wpList_load_mid (by rfl) 62 (.tmp 4) (by rfl) w.heap.size 0 (by rfl) MC _ HMR1.out Tryz.underlying62 rfl HIM.out ?_)
  refine (HCM.out w1 HB1.out).mono ?_
  rintro e w2 ⟨a3, c3, rfl, hd2, hl2, hb2⟩
  have HB2 := hid (HB1.out.trans (hb2.mono HB1.out.size))
  have HP2 := hid ((hb2.block _ (lt_of_heap HP1.out)).trans HP1.out)
  have HG2 := hid (HGA.out.below HB2.out)
  have HM3 := hid (mcells_length k n t s od (.slice a3 m c3) HOD.out)
  have HON3 := hid (mcells_one k n t s od a3 m c3)
  have HI3 := hid (show (Tryz.prog.info? 62).map (·.size) = some (mcells k n t s od (.slice a3 m c3)).toArray.size from by rw [List.size_toArray, HM3.out]; kernel_rfl)
  have HF3 := hid (show 32 + (mcells k n t s od (.slice a3 m c3)).length ≤ (gcl obj mz0 (.slice none 0 0)).length from by rw [HM3.out, gcl_one, HO.out, mz0_length]; omega)
  have HPUT := hid (gcl_put obj HO.out mz0 (mcells k n t s od (.slice a3 m c3)) mz0_length HM3.out (.slice none 0 0))
  obtain ⟨M3, hM3⟩ : ∃ y, y = mcells k n t s od (.slice a3 m c3) := ⟨_, rfl⟩
  have HME := hid hM3
  rw [← hM3] at HM3 HON3 HI3 HF3 HPUT ⊢
  have HGB := hid hgb
  clear hb2 c69 hd2 hl2 hM3 hgb
  go_wp2_with (refine wpList_store_midK (by rfl) 62 (.tmp 27) (.tmp 25) (by rfl) gb 32 M3 (gcl obj mz0 (.slice none 0 0)) 158 (by rfl) (by rfl) HG2.out HF3.out HI3.out HON3.out ?_
               intro w3 hw3 hk3
               rw [HPUT.out] at hw3
               have HG3 := hid (show GthAt w3 gb obj M3 (.slice none 0 0) from hw3)
               have HK3 := hid hk3
               clear hw3 hk3)
  have HK := hid ((Kept.of_below (b := gb) HB2.out).trans HK3.out)
  have hpg : w.heap.size + 1 ≠ gb := by have := HGB.out; omega
  have HP3 := hid ((HK3.out.block _ (lt_of_heap HP2.out) hpg).trans HP2.out)
  have HKP := hid (show ∀ wx, Kept gb w3 wx → wx.cell? ⟨w.heap.size + 1, 0, none⟩ = some (.int .i64 x) ∧ wx.cell? ⟨w.heap.size + 1, 1, none⟩ = some (.slice qa qn qc) from fun wx h => by
    have e := (h.block _ (lt_of_heap HP3.out) hpg).trans HP3.out
    exact ⟨by rw [cell_of_heap e]; rfl, by rw [cell_of_heap e]; rfl⟩)
  have HB3 := hid (HBS.out.kept HK.out HOFF.out)
  have HCL := hid (Clone2_any qa qn qc pl w3.drew (HB3.out.below (bel_drewN (Below.refl _ _) 1)) hqn hql)
  obtain ⟨i0, hi0, hz0, hz1, hz2⟩ := info_parts infoPc
  go_upto_region 8 with fail
  refine wp_region_held_drew (S := (fun wx => wx.cell? ⟨w.heap.size + 1, 0, none⟩ = some (.int .i64 x) ∧ wx.cell? ⟨w.heap.size + 1, 1, none⟩ = some (.slice qa qn qc))) (by kernel_rfl) (HKP.out _ ((Kept.refl gb w3).drewN 1)) (fun hHeld => ?_)
  refine wpAnyH_take (i := 0) (oi := { dst := some 28, op := Op.move (Operand.tmp 0), type := 58, pos := "gather.go:33", after := #[], guard := none }) (v := ?_) rfl (by kernel_rfl) (by kernel_rfl) (by kernel_rfl) (fun _ _ _ h => h) (Or.inl ⟨by rfl, ?hy⟩) hHeld ?_
  case hy => (intro w hSw; (try dsimp only at hSw); obtain ⟨_, _⟩ := hSw; go_simp; all_goals (with_reducible rfl))
  try simp only [Act.put, List.setIfInBounds_toArray, List.set_cons_zero, List.set_cons_succ]
  refine wpAnyH_take (i := 1) (oi := { dst := some 29, op := Op.move (Operand.tmp 0), type := 58, pos := "gather.go:33", after := #[], guard := none }) (v := ?_) rfl (by kernel_rfl) (by kernel_rfl) (by kernel_rfl) (fun _ _ _ h => h) (Or.inl ⟨by rfl, ?hy⟩) hHeld ?_
  case hy => (intro w hSw; (try dsimp only at hSw); obtain ⟨_, _⟩ := hSw; go_simp; all_goals (with_reducible rfl))
  try simp only [Act.put, List.setIfInBounds_toArray, List.set_cons_zero, List.set_cons_succ]
  refine wpAnyH_take (i := 2) (oi := { dst := some 30, op := Op.nilCheck (Operand.tmp 29), type := 0, pos := "gather.go:33", after := #[{ on := 1, ground := Ground.data }], guard := none }) (v := ?_) rfl (by kernel_rfl) (by kernel_rfl) (by kernel_rfl) (fun _ _ _ h => h) (Or.inl ⟨by rfl, ?hy⟩) hHeld ?_
  case hy => (intro w hSw; (try dsimp only at hSw); obtain ⟨_, _⟩ := hSw; go_simp; all_goals (with_reducible rfl))
  try simp only [Act.put, List.setIfInBounds_toArray, List.set_cons_zero, List.set_cons_succ]
  refine wpAnyH_take (i := 3) (oi := { dst := some 31, op := Op.fieldAddr 158 (Operand.tmp 30) 2, type := 0, pos := "gather.go:33", after := #[{ on := 2, ground := Ground.data }], guard := none }) (v := ?_) rfl (by kernel_rfl) (by kernel_rfl) (by kernel_rfl) (fun _ _ _ h => h) (Or.inl ⟨by rfl, ?hy⟩) hHeld ?_
  case hy => (intro w hSw; (try dsimp only at hSw); obtain ⟨_, _⟩ := hSw; go_simp; all_goals (with_reducible rfl))
  try simp only [Act.put, List.setIfInBounds_toArray, List.set_cons_zero, List.set_cons_succ]
  refine wpAnyH_take (i := 5) (oi := { dst := some 33, op := Op.fieldAddr 68 (Operand.tmp 5) 0, type := 0, pos := "gather.go:33", after := #[], guard := none }) (v := ?_) rfl (by kernel_rfl) (by kernel_rfl) (by kernel_rfl) (fun _ _ _ h => h) (Or.inl ⟨by rfl, ?hy⟩) hHeld ?_
  case hy => (intro w hSw; (try dsimp only at hSw); obtain ⟨_, _⟩ := hSw; go_simp; all_goals (with_reducible rfl))
  try simp only [Act.put, List.setIfInBounds_toArray, List.set_cons_zero, List.set_cons_succ]
  refine wpAnyH_take (i := 6) (oi := { dst := some 34, op := Op.load 3 (Operand.tmp 33), type := 3, pos := "gather.go:33", after := #[{ on := 5, ground := Ground.data }], guard := none }) (v := ?_) rfl (by kernel_rfl) (by kernel_rfl) (by kernel_rfl) (fun _ _ _ h => h) (Or.inl ⟨by rfl, ?hy⟩) hHeld ?_
  case hy => (intro w hSw; (try dsimp only at hSw); obtain ⟨_, _⟩ := hSw; go_simp; all_goals (with_reducible rfl))
  try simp only [Act.put, List.setIfInBounds_toArray, List.set_cons_zero, List.set_cons_succ]
  refine wpAnyH_take (i := 7) (oi := { dst := some 35, op := Op.fieldAddr 68 (Operand.tmp 5) 1, type := 0, pos := "gather.go:33", after := #[], guard := none }) (v := ?_) rfl (by kernel_rfl) (by kernel_rfl) (by kernel_rfl) (fun _ _ _ h => h) (Or.inl ⟨by rfl, ?hy⟩) hHeld ?_
  case hy => (intro w hSw; (try dsimp only at hSw); obtain ⟨_, _⟩ := hSw; go_simp; all_goals (with_reducible rfl))
  try simp only [Act.put, List.setIfInBounds_toArray, List.set_cons_zero, List.set_cons_succ]
  refine wpAnyH_take (i := 8) (oi := { dst := some 36, op := Op.load 66 (Operand.tmp 35), type := 66, pos := "gather.go:33", after := #[{ on := 7, ground := Ground.data }], guard := none }) (v := ?_) rfl (by kernel_rfl) (by kernel_rfl) (by kernel_rfl) (fun _ _ _ h => h) (Or.inl ⟨by rfl, ?hy⟩) hHeld ?_
  case hy => (intro w hSw; (try dsimp only at hSw); obtain ⟨_, _⟩ := hSw; go_simp; all_goals (with_reducible rfl))
  try simp only [Act.put, List.setIfInBounds_toArray, List.set_cons_zero, List.set_cons_succ]
  refine wpAnyH_ready (rs := [4, 9]) (by kernel_rfl) (by simp) ?_
  refine AllReadyH.cons (o := { dst := some 32, op := Op.load 63 (Operand.tmp 31), type := 63, pos := "gather.go:33", after := #[{ on := 3, ground := Ground.data }], guard := none }) rfl (fun K hK => ?_) (AllReadyH.cons (o := { dst := some 37, op := Op.call { callee := Callee.value (Operand.func 76), args := #[Operand.tmp 36], argTypes := #[66] }, type := 66, pos := "gather.go:33", after := #[{ on := 8, ground := Ground.data }], guard := none }) rfl (fun K hK => ?_) AllReadyH.nil)
  · have c69 : w3.drew.cell? ⟨gb, 69, none⟩ = some (.slice none 0 0) := (HG3.out.below (bel_drewN (Below.refl _ _) 1)).pv HO.out HM3.out
    go_simp
    clear c69
    refine hK.out _ _ (HKP.out _ ((Kept.refl gb w3).drewN 1)) (fun hHeld => ?_)
    clear hK K
    try simp only [Act.put, List.setIfInBounds_toArray, List.set_cons_zero, List.set_cons_succ]
    refine wpAnyH_ready (rs := [9]) (by kernel_rfl) (by simp) ?_
    refine AllReadyH.cons (o := { dst := some 37, op := Op.call { callee := Callee.value (Operand.func 76), args := #[Operand.tmp 36], argTypes := #[66] }, type := 66, pos := "gather.go:33", after := #[{ on := 8, ground := Ground.data }], guard := none }) rfl (fun K hK => ?_) AllReadyH.nil
    go_simp
    refine HCL.out.mono ?_
    rintro e w5 ⟨_, rfl, a5, c5, rfl, hc5, hb5, hn5, hl5, hbl5, ho5⟩
    have hk5 : Kept gb w3 w5 := (Kept.of_below (b := gb) (bel_drewN (Below.refl w3.heap.size w3) 1)).trans (Kept.of_below (b := gb) hbl5)
    have HK5 := hid hk5
    have HG5 := hid ((HG3.out.below (bel_drewN (Below.refl _ _) 1)).below hbl5)
    clear hc5 hb5 hn5 hl5 hbl5 ho5 hk5
    go_wp2_with fail
    refine hK.out _ _ (HKP.out _ HK5.out) (fun hHeld => ?_)
    clear hK K
    try simp only [Act.put, List.setIfInBounds_toArray, List.set_cons_zero, List.set_cons_succ]
    refine wpAnyH_take (i := 10) (oi := { dst := some 38, op := Op.build 68 #[(0, Operand.tmp 34), (1, Operand.tmp 37)], type := 68, pos := "gather.go:33", after := #[{ on := 6, ground := Ground.data }, { on := 9, ground := Ground.data }], guard := none }) (v := ?_) rfl (by kernel_rfl) (by kernel_rfl) (by kernel_rfl) (fun _ _ _ h => h) (Or.inl ⟨by rfl, ?hy⟩) hHeld ?_
    case hy => (intro w hSw; (try dsimp only at hSw); obtain ⟨_, _⟩ := hSw; go_simp; all_goals (with_reducible rfl))
    try simp only [Act.put, List.setIfInBounds_toArray, List.set_cons_zero, List.set_cons_succ]
    refine wpAnyH_ready (rs := [11]) (by kernel_rfl) (by simp) ?_
    refine AllReadyH.cons (o := { dst := some 39, op := Op.buildSlice 63 1 #[(0, Operand.tmp 38)], type := 63, pos := "gather.go:33", after := #[{ on := 10, ground := Ground.data }], guard := none }) rfl (fun K hK => ?_) AllReadyH.nil
    go_simp
    refine hK.out _ _ (HKP.out _ (HK5.out.alloc _)) (fun hHeld => ?_)
    clear hK K
    try simp only [Act.put, List.setIfInBounds_toArray, List.set_cons_zero, List.set_cons_succ]
    refine wpAnyH_ready (rs := [12]) (by kernel_rfl) (by simp) ?_
    refine AllReadyH.cons (o := { dst := some 40, op := Op.call { callee := Callee.builtin Builtin.append, args := #[Operand.tmp 32, Operand.tmp 39], argTypes := #[63, 63] }, type := 63, pos := "gather.go:33", after := #[{ on := 4, ground := Ground.data }, { on := 11, ground := Ground.data }, { on := 9, ground := Ground.chain }], guard := none }) rfl (fun K hK => ?_) AllReadyH.nil
    refine step_append_grows rfl (.tmp 32) (.tmp 39) _ rfl 68 i0 (.agg #[.int .i64 0, .slice none 0 0]) 2 32 Tryz.underlying63 hi0 hz0 hz1 hz2 rfl (by decide) none 0 0 [] rfl (fun _ => ⟨rfl, rfl⟩) rfl (fun b h => by cases h) ⟨w5.heap.size, 0, none⟩ 1 1 [.int .i64 x, .slice a5 qn c5] rfl rfl (cells_newP _ [.int .i64 x, .slice a5 qn c5] _) (by intro u hu; simp at hu; rcases hu with rfl | rfl <;> rfl) (by decide) (by unfold maxLen; omega) (by omega) ?_
    intro v6 w6 hown6 hg6
    obtain ⟨g6, cap6, rfl, hg6l, r0, r1⟩ := row_one hown6
    have hb6 : Below w5.heap.size w5 w6 := ((Below.refl w5.heap.size w5).alloc (Nat.le_refl _) _).grown hg6 (by simp) (fun q hq => by cases hq)
    have HG6 := hid (HG5.out.below hb6)
    have HK6 := hid (HK5.out.trans (Kept.of_below (b := gb) hb6))
    have hgg : gb < w5.heap.size := lt_of_heap HG5.out
    have hg6n : g6 ≠ gb := by have : w5.heap.size ≤ g6 := Nat.le_trans (by simp) hg6l; omega
    have hg6w : w.heap.size ≤ g6 := Nat.le_trans (Nat.le_trans HK.out.size HK5.out.size) (Nat.le_trans (by simp) hg6l)
    have R0 := hid r0
    have R1 := hid r1
    clear hown6 hg6 hg6l hb6 r0 r1
    refine hK.out _ _ (HKP.out _ HK6.out) (fun hHeld => ?_)
    clear hK K
    try simp only [Act.put, List.setIfInBounds_toArray, List.set_cons_zero, List.set_cons_succ]
    refine wpAnyH_take (i := 13) (oi := { dst := some 41, op := Op.nilCheck (Operand.tmp 28), type := 0, pos := "gather.go:33", after := #[{ on := 0, ground := Ground.data }, { on := 0, ground := Ground.phase }, { on := 1, ground := Ground.phase }, { on := 2, ground := Ground.phase }, { on := 3, ground := Ground.phase }, { on := 4, ground := Ground.phase }, { on := 5, ground := Ground.phase }, { on := 6, ground := Ground.phase }, { on := 7, ground := Ground.phase }, { on := 8, ground := Ground.phase }, { on := 9, ground := Ground.phase }, { on := 10, ground := Ground.phase }, { on := 11, ground := Ground.phase }, { on := 12, ground := Ground.phase }], guard := none }) (v := ?_) rfl (by kernel_rfl) (by kernel_rfl) (by kernel_rfl) (fun _ _ _ h => h) (Or.inl ⟨by rfl, ?hy⟩) hHeld ?_
    case hy => (intro w hSw; (try dsimp only at hSw); obtain ⟨_, _⟩ := hSw; go_simp; all_goals (with_reducible rfl))
    try simp only [Act.put, List.setIfInBounds_toArray, List.set_cons_zero, List.set_cons_succ]
    refine wpAnyH_take (i := 14) (oi := { dst := some 42, op := Op.fieldAddr 158 (Operand.tmp 41) 2, type := 0, pos := "gather.go:33", after := #[{ on := 13, ground := Ground.data }, { on := 0, ground := Ground.phase }, { on := 1, ground := Ground.phase }, { on := 2, ground := Ground.phase }, { on := 3, ground := Ground.phase }, { on := 4, ground := Ground.phase }, { on := 5, ground := Ground.phase }, { on := 6, ground := Ground.phase }, { on := 7, ground := Ground.phase }, { on := 8, ground := Ground.phase }, { on := 9, ground := Ground.phase }, { on := 10, ground := Ground.phase }, { on := 11, ground := Ground.phase }, { on := 12, ground := Ground.phase }], guard := none }) (v := ?_) rfl (by kernel_rfl) (by kernel_rfl) (by kernel_rfl) (fun _ _ _ h => h) (Or.inl ⟨by rfl, ?hy⟩) hHeld ?_
    case hy => (intro w hSw; (try dsimp only at hSw); obtain ⟨_, _⟩ := hSw; go_simp; all_goals (with_reducible rfl))
    try simp only [Act.put, List.setIfInBounds_toArray, List.set_cons_zero, List.set_cons_succ]
    refine wpAnyH_ready (rs := [15]) (by kernel_rfl) (by simp) ?_
    refine AllReadyH.cons (o := { dst := none, op := Op.store 63 (Operand.tmp 42) (Operand.tmp 40), type := 0, pos := "gather.go:33", after := #[{ on := 14, ground := Ground.data }, { on := 12, ground := Ground.data }, { on := 12, ground := Ground.chain }, { on := 0, ground := Ground.phase }, { on := 1, ground := Ground.phase }, { on := 2, ground := Ground.phase }, { on := 3, ground := Ground.phase }, { on := 4, ground := Ground.phase }, { on := 5, ground := Ground.phase }, { on := 6, ground := Ground.phase }, { on := 7, ground := Ground.phase }, { on := 8, ground := Ground.phase }, { on := 9, ground := Ground.phase }, { on := 10, ground := Ground.phase }, { on := 11, ground := Ground.phase }, { on := 12, ground := Ground.phase }], guard := none }) rfl (fun K hK => ?_) AllReadyH.nil
    have c69 : w6.cell? ⟨gb, 69, none⟩ = some (.slice none 0 0) := HG6.out.pv HO.out HM3.out
    have f69 : w6.frozen? ⟨gb, 69, none⟩ = false := free_of_heap HG6.out 69
    go_simp
    refine hK.out _ _ (HKP.out _ (HK6.out.setCell rfl _)) (fun hHeld => ?_)
    clear hK K c69 f69
    try simp only [Act.put]
    refine wpAnyH_done (by kernel_rfl) ?_ _
    go_wp2
    go_ret
    rw [HME.out] at HG6 HM3
    have hset := gth_set HG6.out HO.out HM3.out (.slice (some ⟨g6, 0, none⟩) 1 cap6)
    have q0 : ∀ j, (w6.setCell ⟨gb, 69, none⟩ (.slice (some ⟨g6, 0, none⟩) 1 cap6)).cell? ⟨g6, j, none⟩ = w6.cell? ⟨g6, j, none⟩ := fun j => World.cell?_setCell_far w6 ⟨gb, 69, none⟩ ⟨g6, j, none⟩ _ (fun e => hg6n e.symm)
    exact ⟨rfl, a3, c3, a5, c5, g6, cap6, hset, (q0 0).trans R0.out, (q0 1).trans R1.out, hg6w, HK.out.trans (HK6.out.setCell rfl _)⟩
  · go_simp
    refine HCL.out.mono ?_
    rintro e w5 ⟨_, rfl, a5, c5, rfl, hc5, hb5, hn5, hl5, hbl5, ho5⟩
    have hk5 : Kept gb w3 w5 := (Kept.of_below (b := gb) (bel_drewN (Below.refl w3.heap.size w3) 1)).trans (Kept.of_below (b := gb) hbl5)
    have HK5 := hid hk5
    have HG5 := hid ((HG3.out.below (bel_drewN (Below.refl _ _) 1)).below hbl5)
    clear hc5 hb5 hn5 hl5 hbl5 ho5 hk5
    go_wp2_with fail
    refine hK.out _ _ (HKP.out _ HK5.out) (fun hHeld => ?_)
    clear hK K
    try simp only [Act.put, List.setIfInBounds_toArray, List.set_cons_zero, List.set_cons_succ]
    refine wpAnyH_take (i := 10) (oi := { dst := some 38, op := Op.build 68 #[(0, Operand.tmp 34), (1, Operand.tmp 37)], type := 68, pos := "gather.go:33", after := #[{ on := 6, ground := Ground.data }, { on := 9, ground := Ground.data }], guard := none }) (v := ?_) rfl (by kernel_rfl) (by kernel_rfl) (by kernel_rfl) (fun _ _ _ h => h) (Or.inl ⟨by rfl, ?hy⟩) hHeld ?_
    case hy => (intro w hSw; (try dsimp only at hSw); obtain ⟨_, _⟩ := hSw; go_simp; all_goals (with_reducible rfl))
    try simp only [Act.put, List.setIfInBounds_toArray, List.set_cons_zero, List.set_cons_succ]
    refine wpAnyH_ready (rs := [4, 11]) (by kernel_rfl) (by simp) ?_
    refine AllReadyH.cons (o := { dst := some 32, op := Op.load 63 (Operand.tmp 31), type := 63, pos := "gather.go:33", after := #[{ on := 3, ground := Ground.data }], guard := none }) rfl (fun K hK => ?_) (AllReadyH.cons (o := { dst := some 39, op := Op.buildSlice 63 1 #[(0, Operand.tmp 38)], type := 63, pos := "gather.go:33", after := #[{ on := 10, ground := Ground.data }], guard := none }) rfl (fun K hK => ?_) AllReadyH.nil)
    · have c69 : w5.cell? ⟨gb, 69, none⟩ = some (.slice none 0 0) := HG5.out.pv HO.out HM3.out
      go_simp
      clear c69
      refine hK.out _ _ (HKP.out _ (HK5.out)) (fun hHeld => ?_)
      clear hK K
      try simp only [Act.put, List.setIfInBounds_toArray, List.set_cons_zero, List.set_cons_succ]
      refine wpAnyH_ready (rs := [11]) (by kernel_rfl) (by simp) ?_
      refine AllReadyH.cons (o := { dst := some 39, op := Op.buildSlice 63 1 #[(0, Operand.tmp 38)], type := 63, pos := "gather.go:33", after := #[{ on := 10, ground := Ground.data }], guard := none }) rfl (fun K hK => ?_) AllReadyH.nil
      go_simp
      refine hK.out _ _ (HKP.out _ (HK5.out.alloc _)) (fun hHeld => ?_)
      clear hK K
      try simp only [Act.put, List.setIfInBounds_toArray, List.set_cons_zero, List.set_cons_succ]
      refine wpAnyH_ready (rs := [12]) (by kernel_rfl) (by simp) ?_
      refine AllReadyH.cons (o := { dst := some 40, op := Op.call { callee := Callee.builtin Builtin.append, args := #[Operand.tmp 32, Operand.tmp 39], argTypes := #[63, 63] }, type := 63, pos := "gather.go:33", after := #[{ on := 4, ground := Ground.data }, { on := 11, ground := Ground.data }, { on := 9, ground := Ground.chain }], guard := none }) rfl (fun K hK => ?_) AllReadyH.nil
      refine step_append_grows rfl (.tmp 32) (.tmp 39) _ rfl 68 i0 (.agg #[.int .i64 0, .slice none 0 0]) 2 32 Tryz.underlying63 hi0 hz0 hz1 hz2 rfl (by decide) none 0 0 [] rfl (fun _ => ⟨rfl, rfl⟩) rfl (fun b h => by cases h) ⟨w5.heap.size, 0, none⟩ 1 1 [.int .i64 x, .slice a5 qn c5] rfl rfl (cells_newP _ [.int .i64 x, .slice a5 qn c5] _) (by intro u hu; simp at hu; rcases hu with rfl | rfl <;> rfl) (by decide) (by unfold maxLen; omega) (by omega) ?_
      intro v6 w6 hown6 hg6
      obtain ⟨g6, cap6, rfl, hg6l, r0, r1⟩ := row_one hown6
      have hb6 : Below w5.heap.size w5 w6 := ((Below.refl w5.heap.size w5).alloc (Nat.le_refl _) _).grown hg6 (by simp) (fun q hq => by cases hq)
      have HG6 := hid (HG5.out.below hb6)
      have HK6 := hid (HK5.out.trans (Kept.of_below (b := gb) hb6))
      have hgg : gb < w5.heap.size := lt_of_heap HG5.out
      have hg6n : g6 ≠ gb := by have : w5.heap.size ≤ g6 := Nat.le_trans (by simp) hg6l; omega
      have hg6w : w.heap.size ≤ g6 := Nat.le_trans (Nat.le_trans HK.out.size HK5.out.size) (Nat.le_trans (by simp) hg6l)
      have R0 := hid r0
      have R1 := hid r1
      clear hown6 hg6 hg6l hb6 r0 r1
      refine hK.out _ _ (HKP.out _ HK6.out) (fun hHeld => ?_)
      clear hK K
      try simp only [Act.put, List.setIfInBounds_toArray, List.set_cons_zero, List.set_cons_succ]
      refine wpAnyH_take (i := 13) (oi := { dst := some 41, op := Op.nilCheck (Operand.tmp 28), type := 0, pos := "gather.go:33", after := #[{ on := 0, ground := Ground.data }, { on := 0, ground := Ground.phase }, { on := 1, ground := Ground.phase }, { on := 2, ground := Ground.phase }, { on := 3, ground := Ground.phase }, { on := 4, ground := Ground.phase }, { on := 5, ground := Ground.phase }, { on := 6, ground := Ground.phase }, { on := 7, ground := Ground.phase }, { on := 8, ground := Ground.phase }, { on := 9, ground := Ground.phase }, { on := 10, ground := Ground.phase }, { on := 11, ground := Ground.phase }, { on := 12, ground := Ground.phase }], guard := none }) (v := ?_) rfl (by kernel_rfl) (by kernel_rfl) (by kernel_rfl) (fun _ _ _ h => h) (Or.inl ⟨by rfl, ?hy⟩) hHeld ?_
      case hy => (intro w hSw; (try dsimp only at hSw); obtain ⟨_, _⟩ := hSw; go_simp; all_goals (with_reducible rfl))
      try simp only [Act.put, List.setIfInBounds_toArray, List.set_cons_zero, List.set_cons_succ]
      refine wpAnyH_take (i := 14) (oi := { dst := some 42, op := Op.fieldAddr 158 (Operand.tmp 41) 2, type := 0, pos := "gather.go:33", after := #[{ on := 13, ground := Ground.data }, { on := 0, ground := Ground.phase }, { on := 1, ground := Ground.phase }, { on := 2, ground := Ground.phase }, { on := 3, ground := Ground.phase }, { on := 4, ground := Ground.phase }, { on := 5, ground := Ground.phase }, { on := 6, ground := Ground.phase }, { on := 7, ground := Ground.phase }, { on := 8, ground := Ground.phase }, { on := 9, ground := Ground.phase }, { on := 10, ground := Ground.phase }, { on := 11, ground := Ground.phase }, { on := 12, ground := Ground.phase }], guard := none }) (v := ?_) rfl (by kernel_rfl) (by kernel_rfl) (by kernel_rfl) (fun _ _ _ h => h) (Or.inl ⟨by rfl, ?hy⟩) hHeld ?_
      case hy => (intro w hSw; (try dsimp only at hSw); obtain ⟨_, _⟩ := hSw; go_simp; all_goals (with_reducible rfl))
      try simp only [Act.put, List.setIfInBounds_toArray, List.set_cons_zero, List.set_cons_succ]
      refine wpAnyH_ready (rs := [15]) (by kernel_rfl) (by simp) ?_
      refine AllReadyH.cons (o := { dst := none, op := Op.store 63 (Operand.tmp 42) (Operand.tmp 40), type := 0, pos := "gather.go:33", after := #[{ on := 14, ground := Ground.data }, { on := 12, ground := Ground.data }, { on := 12, ground := Ground.chain }, { on := 0, ground := Ground.phase }, { on := 1, ground := Ground.phase }, { on := 2, ground := Ground.phase }, { on := 3, ground := Ground.phase }, { on := 4, ground := Ground.phase }, { on := 5, ground := Ground.phase }, { on := 6, ground := Ground.phase }, { on := 7, ground := Ground.phase }, { on := 8, ground := Ground.phase }, { on := 9, ground := Ground.phase }, { on := 10, ground := Ground.phase }, { on := 11, ground := Ground.phase }, { on := 12, ground := Ground.phase }], guard := none }) rfl (fun K hK => ?_) AllReadyH.nil
      have c69 : w6.cell? ⟨gb, 69, none⟩ = some (.slice none 0 0) := HG6.out.pv HO.out HM3.out
      have f69 : w6.frozen? ⟨gb, 69, none⟩ = false := free_of_heap HG6.out 69
      go_simp
      refine hK.out _ _ (HKP.out _ (HK6.out.setCell rfl _)) (fun hHeld => ?_)
      clear hK K c69 f69
      try simp only [Act.put]
      refine wpAnyH_done (by kernel_rfl) ?_ _
      go_wp2
      go_ret
      rw [HME.out] at HG6 HM3
      have hset := gth_set HG6.out HO.out HM3.out (.slice (some ⟨g6, 0, none⟩) 1 cap6)
      have q0 : ∀ j, (w6.setCell ⟨gb, 69, none⟩ (.slice (some ⟨g6, 0, none⟩) 1 cap6)).cell? ⟨g6, j, none⟩ = w6.cell? ⟨g6, j, none⟩ := fun j => World.cell?_setCell_far w6 ⟨gb, 69, none⟩ ⟨g6, j, none⟩ _ (fun e => hg6n e.symm)
      exact ⟨rfl, a3, c3, a5, c5, g6, cap6, hset, (q0 0).trans R0.out, (q0 1).trans R1.out, hg6w, HK.out.trans (HK6.out.setCell rfl _)⟩
    · go_simp
      refine hK.out _ _ (HKP.out _ (HK5.out.alloc _)) (fun hHeld => ?_)
      clear hK K
      try simp only [Act.put, List.setIfInBounds_toArray, List.set_cons_zero, List.set_cons_succ]
      refine wpAnyH_ready (rs := [4]) (by kernel_rfl) (by simp) ?_
      refine AllReadyH.cons (o := { dst := some 32, op := Op.load 63 (Operand.tmp 31), type := 63, pos := "gather.go:33", after := #[{ on := 3, ground := Ground.data }], guard := none }) rfl (fun K hK => ?_) AllReadyH.nil
      have c69 : (w5.alloc (.cells #[.int .i64 x, .slice a5 qn c5] 68)).cell? ⟨gb, 69, none⟩ = some (.slice none 0 0) := (HG5.out.below ((Below.refl _ _).alloc (Nat.le_refl _) _)).pv HO.out HM3.out
      go_simp
      clear c69
      refine hK.out _ _ (HKP.out _ (HK5.out.alloc _)) (fun hHeld => ?_)
      clear hK K
      try simp only [Act.put, List.setIfInBounds_toArray, List.set_cons_zero, List.set_cons_succ]
      refine wpAnyH_ready (rs := [12]) (by kernel_rfl) (by simp) ?_
      refine AllReadyH.cons (o := { dst := some 40, op := Op.call { callee := Callee.builtin Builtin.append, args := #[Operand.tmp 32, Operand.tmp 39], argTypes := #[63, 63] }, type := 63, pos := "gather.go:33", after := #[{ on := 4, ground := Ground.data }, { on := 11, ground := Ground.data }, { on := 9, ground := Ground.chain }], guard := none }) rfl (fun K hK => ?_) AllReadyH.nil
      refine step_append_grows rfl (.tmp 32) (.tmp 39) _ rfl 68 i0 (.agg #[.int .i64 0, .slice none 0 0]) 2 32 Tryz.underlying63 hi0 hz0 hz1 hz2 rfl (by decide) none 0 0 [] rfl (fun _ => ⟨rfl, rfl⟩) rfl (fun b h => by cases h) ⟨w5.heap.size, 0, none⟩ 1 1 [.int .i64 x, .slice a5 qn c5] rfl rfl (cells_newP _ [.int .i64 x, .slice a5 qn c5] _) (by intro u hu; simp at hu; rcases hu with rfl | rfl <;> rfl) (by decide) (by unfold maxLen; omega) (by omega) ?_
      intro v6 w6 hown6 hg6
      obtain ⟨g6, cap6, rfl, hg6l, r0, r1⟩ := row_one hown6
      have hb6 : Below w5.heap.size w5 w6 := ((Below.refl w5.heap.size w5).alloc (Nat.le_refl _) _).grown hg6 (by simp) (fun q hq => by cases hq)
      have HG6 := hid (HG5.out.below hb6)
      have HK6 := hid (HK5.out.trans (Kept.of_below (b := gb) hb6))
      have hgg : gb < w5.heap.size := lt_of_heap HG5.out
      have hg6n : g6 ≠ gb := by have : w5.heap.size ≤ g6 := Nat.le_trans (by simp) hg6l; omega
      have hg6w : w.heap.size ≤ g6 := Nat.le_trans (Nat.le_trans HK.out.size HK5.out.size) (Nat.le_trans (by simp) hg6l)
      have R0 := hid r0
      have R1 := hid r1
      clear hown6 hg6 hg6l hb6 r0 r1
      refine hK.out _ _ (HKP.out _ HK6.out) (fun hHeld => ?_)
      clear hK K
      try simp only [Act.put, List.setIfInBounds_toArray, List.set_cons_zero, List.set_cons_succ]
      refine wpAnyH_take (i := 13) (oi := { dst := some 41, op := Op.nilCheck (Operand.tmp 28), type := 0, pos := "gather.go:33", after := #[{ on := 0, ground := Ground.data }, { on := 0, ground := Ground.phase }, { on := 1, ground := Ground.phase }, { on := 2, ground := Ground.phase }, { on := 3, ground := Ground.phase }, { on := 4, ground := Ground.phase }, { on := 5, ground := Ground.phase }, { on := 6, ground := Ground.phase }, { on := 7, ground := Ground.phase }, { on := 8, ground := Ground.phase }, { on := 9, ground := Ground.phase }, { on := 10, ground := Ground.phase }, { on := 11, ground := Ground.phase }, { on := 12, ground := Ground.phase }], guard := none }) (v := ?_) rfl (by kernel_rfl) (by kernel_rfl) (by kernel_rfl) (fun _ _ _ h => h) (Or.inl ⟨by rfl, ?hy⟩) hHeld ?_
      case hy => (intro w hSw; (try dsimp only at hSw); obtain ⟨_, _⟩ := hSw; go_simp; all_goals (with_reducible rfl))
      try simp only [Act.put, List.setIfInBounds_toArray, List.set_cons_zero, List.set_cons_succ]
      refine wpAnyH_take (i := 14) (oi := { dst := some 42, op := Op.fieldAddr 158 (Operand.tmp 41) 2, type := 0, pos := "gather.go:33", after := #[{ on := 13, ground := Ground.data }, { on := 0, ground := Ground.phase }, { on := 1, ground := Ground.phase }, { on := 2, ground := Ground.phase }, { on := 3, ground := Ground.phase }, { on := 4, ground := Ground.phase }, { on := 5, ground := Ground.phase }, { on := 6, ground := Ground.phase }, { on := 7, ground := Ground.phase }, { on := 8, ground := Ground.phase }, { on := 9, ground := Ground.phase }, { on := 10, ground := Ground.phase }, { on := 11, ground := Ground.phase }, { on := 12, ground := Ground.phase }], guard := none }) (v := ?_) rfl (by kernel_rfl) (by kernel_rfl) (by kernel_rfl) (fun _ _ _ h => h) (Or.inl ⟨by rfl, ?hy⟩) hHeld ?_
      case hy => (intro w hSw; (try dsimp only at hSw); obtain ⟨_, _⟩ := hSw; go_simp; all_goals (with_reducible rfl))
      try simp only [Act.put, List.setIfInBounds_toArray, List.set_cons_zero, List.set_cons_succ]
      refine wpAnyH_ready (rs := [15]) (by kernel_rfl) (by simp) ?_
      refine AllReadyH.cons (o := { dst := none, op := Op.store 63 (Operand.tmp 42) (Operand.tmp 40), type := 0, pos := "gather.go:33", after := #[{ on := 14, ground := Ground.data }, { on := 12, ground := Ground.data }, { on := 12, ground := Ground.chain }, { on := 0, ground := Ground.phase }, { on := 1, ground := Ground.phase }, { on := 2, ground := Ground.phase }, { on := 3, ground := Ground.phase }, { on := 4, ground := Ground.phase }, { on := 5, ground := Ground.phase }, { on := 6, ground := Ground.phase }, { on := 7, ground := Ground.phase }, { on := 8, ground := Ground.phase }, { on := 9, ground := Ground.phase }, { on := 10, ground := Ground.phase }, { on := 11, ground := Ground.phase }, { on := 12, ground := Ground.phase }], guard := none }) rfl (fun K hK => ?_) AllReadyH.nil
      have c69 : w6.cell? ⟨gb, 69, none⟩ = some (.slice none 0 0) := HG6.out.pv HO.out HM3.out
      have f69 : w6.frozen? ⟨gb, 69, none⟩ = false := free_of_heap HG6.out 69
      go_simp
      refine hK.out _ _ (HKP.out _ (HK6.out.setCell rfl _)) (fun hHeld => ?_)
      clear hK K c69 f69
      try simp only [Act.put]
      refine wpAnyH_done (by kernel_rfl) ?_ _
      go_wp2
      go_ret
      rw [HME.out] at HG6 HM3
      have hset := gth_set HG6.out HO.out HM3.out (.slice (some ⟨g6, 0, none⟩) 1 cap6)
      have q0 : ∀ j, (w6.setCell ⟨gb, 69, none⟩ (.slice (some ⟨g6, 0, none⟩) 1 cap6)).cell? ⟨g6, j, none⟩ = w6.cell? ⟨g6, j, none⟩ := fun j => World.cell?_setCell_far w6 ⟨gb, 69, none⟩ ⟨g6, j, none⟩ _ (fun e => hg6n e.symm)
      exact ⟨rfl, a3, c3, a5, c5, g6, cap6, hset, (q0 0).trans R0.out, (q0 1).trans R1.out, hg6w, HK.out.trans (HK6.out.setCell rfl _)⟩
end Go.Proofs.YtjgiiciniplbnaaGreatDoor

namespace Go.Proofs.YtjgiiciniplbnaaGreatDoor
open Go Go.RowKit Go.Lib Go.Sort
set_option linter.unusedVariables false

def id1 : List Nat := 1 :: List.replicate 31 0
theorem id1_length : id1.length = 32 := rfl
theorem id1_lt : ∀ x ∈ id1, x < 256 := by decide
set_option maxRecDepth 100000 in
theorem score_ne : (scL id1 0 == scL id1 1) = false := by kernel_rfl
theorem memb3 : memb (setN 3) 16 = [0, 1, 2] := by decide
theorem setL3 (i : Nat) (h : i < 16) : setL [0, 1, 2] i = setN 3 i := by
  unfold setL setN
  rw [Bool.eq_iff_iff, List.contains_iff_mem, decide_eq_true_eq]
  simp only [List.mem_cons, List.not_mem_nil, or_false]
  omega
structure Three (q0 q1 q2 : Nat) : Prop where
  eq : rkd id1 (setN 3) = [q0, q1, q2]
  lt0 : q0 < 3
  lt1 : q1 < 3
  lt2 : q2 < 3
  ne01 : q0 ≠ q1
  ne02 : q0 ≠ q2
  ne12 : q1 ≠ q2
  c01 : cfN id1 q0 q1 < 0
  c02 : cfN id1 q0 q2 < 0
  c12 : cfN id1 q1 q2 < 0
theorem three : ∃ q0 q1 q2, Three q0 q1 q2 := by
  have hl := rkd_length id1 (setN 3)
  rw [memb3] at hl
  have hm := fun x => rkd_mem id1 (setN 3) x
  have hs := rkd_sorted id1 (setN 3)
  have hn := rkd_nodup id1 (setN 3)
  generalize hR : rkd id1 (setN 3) = R at *
  match R, hl with
  | [q0, q1, q2], _ =>
    have h3 : ∀ x, x ∈ [q0, q1, q2] → x < 3 := fun x hx => by
      have := ((hm x).1 hx).2
      unfold setN at this
      have := of_decide_eq_true this
      omega
    simp only [List.pairwise_cons, List.mem_cons, List.not_mem_nil, or_false, List.nodup_cons, not_or] at hs hn
    refine ⟨q0, q1, q2, hR, h3 q0 (by simp), h3 q1 (by simp), h3 q2 (by simp), ?_, ?_, ?_, hs.1 q1 (by simp), hs.1 q2 (by simp), hs.2.1 q2 (by simp)⟩
    · exact hn.1.1
    · exact hn.1.2
    · exact hn.2.1
theorem chosen3 {q0 q1 q2 : Nat} (T : Three q0 q1 q2) : chosenL id1 [0, 1, 2] 3 = [q0, q1, q2] := by
  unfold chosenL
  rw [rkd_congr setL3, T.eq]
  rfl
theorem duty1 {q0 q1 q2 : Nat} (T : Three q0 q1 q2) : dty id1 1 [0, 1, 2] 3 false false = 1 := by
  unfold dty
  rw [chosen3 T]
  have : ([q0, q1, q2].map Int.ofNat).contains (1 : Int) = true := by
    rw [show (1 : Int) = ((1 : Nat) : Int) from rfl, mem_ofNat, List.contains_iff_mem, ← T.eq, rkd_mem]
    exact ⟨by omega, by decide⟩
  rw [this]
  rfl
theorem duty2 {q0 q1 q2 : Nat} (T : Three q0 q1 q2) : dty id1 3 [0, 1, 2] 3 true false = 2 := by
  unfold dty
  rw [chosen3 T]
  have : ([q0, q1, q2].map Int.ofNat).contains (3 : Int) = false := by
    rw [show (3 : Int) = ((3 : Nat) : Int) from rfl, mem_ofNat, Bool.eq_false_iff, ne_eq, List.contains_iff_mem, ← T.eq, rkd_mem]
    rintro ⟨_, h⟩
    revert h
    decide
  rw [this]
  rfl
def lz (q0 q1 q2 : Nat) : List Int := [(q0 : Int), (q1 : Int), (q2 : Int)]
theorem blk16 {q0 q1 q2 : Nat} (T : Three q0 q1 q2) : blkd id1 q0 5 q1 16 (lz q0 q1 q2) [] = true := by
  have h := T.c01
  unfold cfN at h
  have h2 : setL (lz q0 q1 q2) q0 = true := by simp [setL, lz]
  have h3 : setL [] q0 = false := rfl
  unfold blkd
  rw [h2, h3]
  simp [h]
theorem blk17 {q0 q1 q2 : Nat} (T : Three q0 q1 q2) : blkd id1 q0 5 q1 17 (lz q0 q1 q2) [] = false := by
  unfold blkd
  simp
theorem two_le (l : List Nat) (a b : Nat) (ha : a ∈ l) (hb : b ∈ l) (hne : a ≠ b) : 2 ≤ l.length := by
  match l with
  | [] => cases ha
  | [x] => simp at ha hb; omega
  | _ :: _ :: _ => simp
theorem cov3 {q0 q1 q2 : Nat} (T : Three q0 q1 q2) : cov id1 q2 2 [(q0 : Int), (q1 : Int)] = true := by
  have h1 := T.c02
  have h2 := T.c12
  unfold cfN at h1 h2
  have hl := two_le (bets id1 q2 [(q0 : Int), (q1 : Int)] 16) q0 q1 (by
    unfold bets
    rw [List.mem_filter, List.mem_range]
    exact ⟨by have := T.lt0; omega, by simp [setL, h1]⟩) (by
    unfold bets
    rw [List.mem_filter, List.mem_range]
    exact ⟨by have := T.lt1; omega, by simp [setL, h2]⟩) T.ne01
  unfold cov
  simp
  omega
theorem built_id1 : Tryz.prog.built 23 [(0, .int .u8 1)] = some (u8s id1).toArray := by kernel_rfl
end Go.Proofs.YtjgiiciniplbnaaGreatDoor

namespace Go.Proofs.YtjgiiciniplbnaaGreatDoor
open Go Go.RowKit
set_option linter.unusedVariables false

set_option maxRecDepth 100000 in
set_option maxHeartbeats 2000000 in
theorem rbytes_bad (k n t s : Int) (od : List Nat) (a : Option Addr) (m c : Nat) (h : od.length = 32) (w : World) (hbad : manB k n t s m = false) :
    Calls Tryz.prog 103 #[.agg (mcells k n t s od (.slice a m c)).toArray] w fun e w' => e = .returned (.tuple #[.slice none 0 0, .int .i64 2]) ∧ Below w.heap.size w w' := by
  have hM : ManAt (w.alloc (.cells (mcells k n t s od (.slice a m c)).toArray 62)) w.heap.size k n t s od (.slice a m c) := heap_new _ _
  have HB := hid ((Below.refl w.heap.size w).alloc (Nat.le_refl _) (.cells (mcells k n t s od (.slice a m c)).toArray 62))
  have HIF := hid (show (Tryz.prog.info? 62).map (·.size) = some (mcells k n t s od (.slice a m c)).length from by rw [mcells_length _ _ _ _ _ _ h]; kernel_rfl)
  have HV := hid (fun w => valid_any k n t s od a m c h w)
  rw [hbad] at HV
  obtain ⟨w1, hw1⟩ : ∃ w1, w1 = w.alloc (.cells (mcells k n t s od (.slice a m c)).toArray 62) := ⟨_, rfl⟩
  rw [← hw1] at hM HB
  have HRA := hid (show w1.rangeAt w.heap.size 0 (mcells k n t s od (.slice a m c)) from fun j v hj => by
    rw [Nat.zero_add, cell_of_heap hM, List.getElem?_toArray]
    exact hj)
  clear hM h hbad
  go_enter Tryz.func103, Tryz.ntmps103
  go_upto_region 1 with fail
  change Code.wp _ _ _ _ (w.alloc (.cells (mcells k n t s od (.slice a m c)).toArray 62))
  rw [← hw1]
  clear hw1
  go_wp2_with (refine wpList_load_mid (by rfl) 62 (.tmp 1) (by rfl) w.heap.size 0 (by rfl) (mcells k n t s od (.slice a m c)) _ HRA.out Tryz.underlying62 rfl HIF.out ?_)
  refine (HV.out w1).mono ?_
  rintro e w2 ⟨rfl, hb2⟩
  have HB2 := hid (HB.out.trans (hb2.mono HB.out.size))
  clear hb2
  go_wp2
  go_ret2
  exact ⟨rfl, HB2.out⟩

theorem dig_sliceR (g o : Nat) (w : World) : (Instr.sliceAt 23 (.pointer (some ⟨g, o, none⟩)) none none none).run Tryz.prog w = .ok (.slice (some ⟨g, o, none⟩) 32 32) w := by
  simp [go_sem, Instr.sliceAt, Instr.slice, run_underlying Tryz.underlying23]
/-- what Bytes answers for a valid manifest -/
def RbyTo (w : World) (L : Nat) (l : List Nat) (e : Ending) (w' : World) : Prop := ∃ a c, e = .returned (.tuple #[.slice a L c, .int .i64 0]) ∧ Bs w' (.slice a L c) l ∧ L ≤ c ∧ (a = none → c = 0) ∧ Below w.heap.size w w'

set_option maxRecDepth 100000 in
set_option maxHeartbeats 4000000 in
theorem rbytes_any (k n t s : Nat) (od : List Nat) (D : List (List Nat)) (v : Value) (h : od.length = 32) (hol : ∀ x ∈ od, x < 256) (w : World) (hD : DgAt w v D) (hok : manB k n t s D.length = true) :
    Calls Tryz.prog 103 #[.agg (mcells k n t s od v).toArray] w fun e w' => RbyTo w (39 + 32 * t) (encTo k n t s od D t) e w' := by
  obtain ⟨a, c, rfl, hDl, hDc⟩ := hD
  have hM : ManAt (w.alloc (.cells (mcells k n t s od (.slice a D.length c)).toArray 62)) w.heap.size k n t s od (.slice a D.length c) := heap_new _ _
  have HB := hid ((Below.refl w.heap.size w).alloc (Nat.le_refl _) (.cells (mcells k n t s od (.slice a D.length c)).toArray 62))
  have HIF := hid (show (Tryz.prog.info? 62).map (·.size) = some (mcells k n t s od (.slice a D.length c)).length from by rw [mcells_length _ _ _ _ _ _ h]; kernel_rfl)
  have HV := hid (fun w => valid_any k n t s od a D.length c h w)
  rw [hok] at HV
  have hnum : 1 ≤ k ∧ k ≤ n ∧ n ≤ t ∧ t ≤ 255 ∧ s ≤ 8192 ∧ D.length = t := by
    unfold manB vnB vcB at hok
    simp only [Bool.and_eq_true, decide_eq_true_eq] at hok
    omega
  obtain ⟨w1, hw1⟩ : ∃ w1, w1 = w.alloc (.cells (mcells k n t s od (.slice a D.length c)).toArray 62) := ⟨_, rfl⟩
  rw [← hw1] at HB hM
  have HM := hid hM
  have HRA := hid (show w1.rangeAt w.heap.size 0 (mcells k n t s od (.slice a D.length c)) from fun j v hj => by
    rw [Nat.zero_add, cell_of_heap hM, List.getElem?_toArray]
    exact hj)
  have HH := hid h
  have HOL := hid hol
  have HDL := hid hDl
  have HDC := hid hDc
  have HN := hid hnum
  have hs1 : w.heap.size < w1.heap.size := by rw [hw1]; simp
  obtain ⟨hk1, hkn, hnt, ht, hs8, hDt⟩ := hnum
  have HDT := hid hDt
  clear hDt
  have q1 : IntKind.u8.wrap (k : Int) = (k : Int) := by rw [IntKind.wrap_u8]; omega
  have q2 : IntKind.u8.wrap (n : Int) = (n : Int) := by rw [IntKind.wrap_u8]; omega
  have q3 : IntKind.u8.wrap (t : Int) = (t : Int) := by rw [IntKind.wrap_u8]; omega
  obtain ⟨sh, hsh⟩ : ∃ sh, sh = s / 256 := ⟨_, rfl⟩
  obtain ⟨sl, hsl⟩ : ∃ sl, sl = s % 256 := ⟨_, rfl⟩
  have q4 : IntKind.u8.wrap ((s : Int) / 256) = (sh : Int) := by rw [IntKind.wrap_u8]; omega
  have q5 : IntKind.u8.wrap (s : Int) = (sl : Int) := by rw [IntKind.wrap_u8]; omega
  have hlt7 : ∀ x ∈ [77, 1, k, n, t, sh, sl], x < 256 := fun x hx => by
    simp only [List.mem_cons, List.not_mem_nil, or_false] at hx
    rcases hx with rfl | rfl | rfl | rfl | rfl | rfl | rfl <;> omega
  have HLT7 := hid hlt7
  have HHEAD := hid (show encHead k n t s od = [77, 1, k, n, t, sh, sl] ++ od from by rw [hsh, hsl]; rfl)
  clear hM h hol hDl hDc hok hsh hsl hlt7
  go_enter Tryz.func103, Tryz.ntmps103
  go_upto_region 1 with fail
  change Code.wp _ _ _ _ (w.alloc (.cells (mcells k n t s od (.slice a D.length c)).toArray 62))
  rw [← hw1]
  clear hw1
  go_wp2_with (refine wpList_load_mid (by rfl) 62 (.tmp 1) (by rfl) w.heap.size 0 (by rfl) (mcells k n t s od (.slice a D.length c)) _ HRA.out Tryz.underlying62 rfl HIF.out ?_)
  refine (HV.out w1).mono ?_
  rintro e w2 ⟨rfl, hb2⟩
  have HM2 := hid (show ManAt w2 w.heap.size k n t s od (.slice a D.length c) from (hb2.block _ hs1).trans HM.out)
  have HB2 := hid (HB.out.trans (hb2.mono (by omega)))
  obtain ⟨c0, c1, c2, c3, c36⟩ := HM2.out.c HH.out
  have hs2 : w.heap.size < w2.heap.size := Nat.lt_of_lt_of_le hs1 hb2.size
  have HOD := hid (HM2.out.od HH.out HOL.out)
  have HOW := hid (show (w2.alloc (.cells (u8s [77, 1, k, n, t, sh, sl]).toArray 5)).ownsRow w2.heap.size 5 1 (.slice (some ⟨w2.heap.size, 0, none⟩) 7 7) 7 (u8s [77, 1, k, n, t, sh, sl]) from
    ⟨rfl, .inr ⟨w2.heap.size, 7, _, rfl, Nat.le_refl _, heap_new _ _, Nat.le_refl _, by unfold maxLen; omega, rfl, rfl⟩⟩)
  clear hb2 HM HB HIF HV HRA
  have HDIG := hid (fun w' => dig_sliceR w.heap.size 4 w')
  have hdig := HDIG.out
  have HALL1 := hid (show ∀ z ∈ [77, 1, k, n, t, sh, sl] ++ od, z < 256 from fun z hz => by
    rcases List.mem_append.1 hz with h | h
    · exact HLT7.out z h
    · exact HOL.out z h)
  have HALLF := hid (show ∀ i, ∀ z ∈ encTo k n t s od D i, z < 256 from fun i z hz => by
    unfold encTo at hz
    rcases List.mem_append.1 hz with h | h
    · rw [HHEAD.out] at h; exact HALL1.out z h
    · obtain ⟨d, hd, hzd⟩ := List.mem_flatten.1 h
      exact (HDL.out d (List.mem_of_mem_take hd)).2 z hzd)
  go_wp2_with (refine wpList_raw (by rfl) (.tmp 27) (.tmp 29) (by rfl) w2.heap.size 7 _ [77, 1, k, n, t, sh, sl] (by rfl) HOW.out (some ⟨w.heap.size, 4, none⟩) 32 32 od (by rfl) (HOD.out.alloc _) (by intro h; cases h) (by omega) (by simp) ?_
               intro v6 w6 hown6 hg6 hsr6
               have HB6 := hid (show Below w2.heap.size w2 w6 from ((Below.refl _ _).alloc (Nat.le_refl _) _).grown hg6 (by simp) (fun g hg => (HOW.out.lt g hg).1))
               have HO6 := hid (show w6.ownsRow w2.heap.size 5 1 v6 (39 + 32 * 0) (u8s (encTo k n t s od D 0)) from by
                 have e : encTo k n t s od D 0 = [77, 1, k, n, t, sh, sl] ++ od := by unfold encTo; rw [HHEAD.out]; simp
                 rw [e]
                 exact hown6)
               clear hown6 hg6 hsr6)
  clear hdig c0 c1 c2 c3 c36
  go_loopw [4, 5] (fun mv iv wr => ∃ (i : Nat) (v : Value), i ≤ t ∧ iv = .int .i64 i ∧ v = mv ∧ Hid (wr.ownsRow w2.heap.size 5 1 v (39 + 32 * i) (u8s (encTo k n t s od D i))) ∧ Hid (Below w2.heap.size w2 wr)) (fun _ iv _ => t - (intOf iv).toNat)
  case atStart => exact ⟨0, _, by omega, rfl, rfl, HO6, HB6⟩
  case round =>
    clear HO6 HB6
    obtain ⟨i, v, hi, rfl, rfl, HO, HB⟩ := hrel
    have HMR := hid (show ManAt wr w.heap.size k n t s od (.slice a D.length c) from (HB.out.block _ hs2).trans HM2.out)
    obtain ⟨c0, c1, c2, c3, c36⟩ := HMR.out.c HH.out
    have hszr := HB.out.size
    by_cases hit : i < t
    · have hI : (i : Int) < (t : Int) := by omega
      have hiD : i < D.length := by rw [HDT.out]; exact hit
      obtain ⟨b, o, rfl, hcell⟩ := HDC.out (fun e => by rw [e] at hiD; exact absurd hiD (Nat.not_lt_zero _))
      have hrg := hcell i hiD
      obtain ⟨d, hd⟩ : ∃ d, d = D.getD i [] := ⟨_, rfl⟩
      rw [← hd] at hrg
      have hdm : d ∈ D := by
        rw [hd, List.getD_eq_getElem?_getD, List.getElem?_eq_getElem hiD]
        exact List.getElem_mem _
      have hd32 := (HDL.out d hdm).1
      have HST := hid (show encTo k n t s od D (i + 1) = encTo k n t s od D i ++ d from by
        unfold encTo
        rw [List.take_succ_eq_append_getElem hiD, List.flatten_append, hd, List.getD_eq_getElem?_getD, List.getElem?_eq_getElem hiD, List.append_assoc]
        simp)
      have HRG := hid (range_below (range_below hrg HB2.out) HB.out)
      have h32 : (u8s d).length = 32 := by simp [u8s, hd32]
      have HIFD := hid (show (Tryz.prog.info? 23).map (·.size) = some (u8s d).length from by rw [h32]; kernel_rfl)
      have HIFD2 := hid (show (Tryz.prog.info? 23).map (·.size) = some (u8s d).toArray.size from by rw [List.size_toArray]; exact HIFD.out)
      have HSZ := hid (show 32 = (u8s d).toArray.size from by rw [List.size_toArray, h32])
      have HON := hid (show (u8s d).toArray.all (·.oneCell') = true from all_oneCell_toArray (u8s_oneH d))
      have HD32 := hid hd32
      have HDLT := hid (HDL.out d hdm).2
      have hiD2 : (i : Int) < (D.length : Int) := by omega
      have hdig := fun w' => dig_sliceR wr.heap.size 0 w'
      obtain ⟨ni, hni⟩ : ∃ ni, ni = 39 + 32 * i := ⟨_, rfl⟩
      rw [← hni] at HO
      have HNI := hid hni
      have hni2 : ni ≤ 10000 := by omega
      clear hcell hrg hd hdm hd32 h32 hni
      go_wp2_with (first
        | (refine wpList_load_mid (by rfl) 23 (.tmp 40) (by rfl) b (o + i * 32) (by rfl) (u8s d) _ HRG.out Tryz.underlying23 rfl HIFD.out ?_)
        | (refine wpList_store_row (by rfl) 23 (.tmp 6) (.tmp 41) (by rfl) wr.heap.size _ (u8s d).toArray _ (by rfl) (by rfl) (heap_new _ _) HIFD2.out HSZ.out HON.out ?_
           intro w5 hw5 hk5
           have HB5 := hid (show Below wr.heap.size wr w5 from ((Below.refl _ _).alloc (Nat.le_refl _) _).trans (hk5.below (by simp) (Nat.le_refl _)))
           have HBD := hid (show Bs w5 (.slice (some ⟨wr.heap.size, 0, none⟩) 32 32) d from ⟨_, 32, by rw [HD32.out], HDLT.out, fun _ => ⟨wr.heap.size, 0, rfl, fun j hj => by rw [cell_of_heap hw5, Nat.zero_add]; simp [u8s, hj]⟩⟩)
           have HO5 := hid (owns_belowR HO.out HB5.out)
           clear hw5 hk5)
        | (have h0 := HO5.out.1
           refine wpList_raw (by rfl) (.tmp 42) (.tmp 43) (by rfl) w2.heap.size ni v (encTo k n t s od D i) (by rfl) HO5.out (some ⟨wr.heap.size, 0, none⟩) 32 32 d (by rfl) HBD.out (by intro h; cases h) (by omega) (by have := HB5.out.size; omega) ?_
           intro v8 w8 hown8 hg8 hsr8
           have HB8 := hid (show Below w2.heap.size w2 w8 from (HB.out.trans (HB5.out.mono HB.out.size)).grown hg8 (by have := HB5.out.size; omega) (fun g hg => (HO5.out.lt g hg).1))
           have HO8 := hid (show w8.ownsRow w2.heap.size 5 1 v8 (39 + 32 * (i + 1)) (u8s (encTo k n t s od D (i + 1))) from by
             rw [HST.out, show 39 + 32 * (i + 1) = ni + 32 from by rw [HNI.out]; omega]
             exact hown8)
           clear hown8 hg8 hsr8))
      exact ⟨⟨i + 1, _, by omega, by go_num, rfl, HO8, HB8⟩, by simp [intOf]; omega⟩
    · obtain rfl : i = t := by omega
      have hI : ¬ ((i : Int) < (i : Int)) := by omega
      obtain ⟨a9, c9, rfl, -, hc9, hbs9, hls9⟩ := bs_of_owns HO.out (HALLF.out i)
      have HBS9 := hid hbs9
      have HNIL9 := hid (show a9 = none → c9 = 0 from fun e => by
        rcases HO.out.2 with ⟨h, _⟩ | ⟨g, cap, cur, h, _⟩
        · simp only [Value.slice.injEq] at h; exact h.2.2
        · simp only [Value.slice.injEq] at h; rw [e] at h; cases h.1)
      clear hbs9 hls9
      go_wp2
      go_ret2
      exact ⟨a9, c9, rfl, HBS9.out, hc9, HNIL9.out, HB2.out.trans (HB.out.mono HB2.out.size)⟩
end Go.Proofs.YtjgiiciniplbnaaGreatDoor

namespace Go.Proofs.YtjgiiciniplbnaaGreatDoor
open Go Go.RowKit
set_option linter.unusedVariables false

set_option maxRecDepth 100000 in
set_option maxHeartbeats 2000000 in
theorem encode_bad (k n t s : Int) (od : List Nat) (a : Option Addr) (m c : Nat) (h : od.length = 32) (w : World) (hbad : manB k n t s m = false) :
    Calls Tryz.prog 87 #[.agg (mcells k n t s od (.slice a m c)).toArray] w fun e w' => e = .returned (.tuple #[.slice none 0 0, .int .i64 2]) ∧ Below w.heap.size w w' := by
  have hM : ManAt (w.alloc (.cells (mcells k n t s od (.slice a m c)).toArray 62)) w.heap.size k n t s od (.slice a m c) := heap_new _ _
  have HB := hid ((Below.refl w.heap.size w).alloc (Nat.le_refl _) (.cells (mcells k n t s od (.slice a m c)).toArray 62))
  have HIF := hid (show (Tryz.prog.info? 62).map (·.size) = some (mcells k n t s od (.slice a m c)).length from by rw [mcells_length _ _ _ _ _ _ h]; kernel_rfl)
  have HV := hid (fun w => CheckManifest_any k n t s od a m c h w)
  have hme : manE k n t s m = 2 := by unfold manE; rw [hbad]; rfl
  rw [hme] at HV
  obtain ⟨w1, hw1⟩ : ∃ w1, w1 = w.alloc (.cells (mcells k n t s od (.slice a m c)).toArray 62) := ⟨_, rfl⟩
  rw [← hw1] at hM HB
  have HRA := hid (show w1.rangeAt w.heap.size 0 (mcells k n t s od (.slice a m c)) from fun j v hj => by
    rw [Nat.zero_add, cell_of_heap hM, List.getElem?_toArray]
    exact hj)
  clear hM h hbad hme
  go_enter Tryz.func87, Tryz.ntmps87
  go_upto_region 1 with fail
  change Code.wp _ _ _ _ (w.alloc (.cells (mcells k n t s od (.slice a m c)).toArray 62))
  rw [← hw1]
  clear hw1
  go_wp2_with (refine wpList_load_mid (by rfl) 62 (.tmp 1) (by rfl) w.heap.size 0 (by rfl) (mcells k n t s od (.slice a m c)) _ HRA.out Tryz.underlying62 rfl HIF.out ?_)
  refine (HV.out w1).mono ?_
  rintro e w2 ⟨rfl, hb2⟩
  have HB2 := hid (HB.out.trans (hb2.mono HB.out.size))
  clear hb2
  go_wp2
  go_ret2
  exact ⟨rfl, HB2.out⟩

/-- two results: a value in a cell and a number -/
theorem results_di {fn : Func} {p t : Tmp} {ty : TypeId} (h : fn.results = #[.cell p ty, .tmp t]) {tmps : Array Value} {P : Program} {w : World} {ad : Addr} {v u : Value} (hp : tmps.getD p undef = .pointer (some ad)) (hv : (loadVar ty ad).run P w = .ok v w) (hu : tmps.getD t undef = u) :
    (results fn tmps).run P w = .ok (.tuple #[v, u]) w := by
  have e : (results fn tmps).run P w = ((asAddr (tmps.getD p undef)).run P w).andThen fun a w₁ => ((loadVar ty a).run P w₁).andThen fun x w₂ => .ok (.tuple #[x, tmps.getD t undef]) w₂ := by
    simp only [results, h]
    simp [Sem.run_bind, Result.andThen]
  rw [e, hp, hu]
  simp [asAddr, hv, Result.andThen]
/-- the bytes of a manifest, in memory -/
theorem encode_to (k n t s : Nat) (od : List Nat) (D : List (List Nat)) (v : Value) (h : od.length = 32) (hol : ∀ x ∈ od, x < 256) (w : World) (hD : DgAt w v D) (hok : manB k n t s D.length = true) :
    Calls Tryz.prog 87 #[.agg (mcells k n t s od v).toArray] w fun e w' => RbyTo w (39 + 32 * t) (encTo k n t s od D t) e w' := by
  refine (EncodeM_any k n t s od D v h hol w hD hok).mono ?_
  rintro e w' ⟨u, rfl, wx, ⟨a, c, rfl, hc, hb, hn, _, hB⟩, hB2⟩
  have e0 : 7 + 32 * (1 + t) = 39 + 32 * t := by omega
  rw [e0] at hb hc ⊢
  exact ⟨a, c, rfl, hb, hc, hn, hB2.trans (hB.mono hB2.size)⟩
theorem dgat_below {w w' : World} {v : Value} {D : List (List Nat)} (hD : DgAt w v D) (hb : Below w.heap.size w w') : DgAt w' v D := by
  obtain ⟨a', c', h1, h2, h3⟩ := hD
  refine ⟨a', c', h1, h2, fun hne => ?_⟩
  obtain ⟨b, o, e, h4⟩ := h3 hne
  exact ⟨b, o, e, fun j hj => range_below (h4 j hj) hb⟩
theorem manB_num {k n t s m : Nat} (hok : manB k n t s m = true) : t ≤ 255 := by
  unfold manB vnB vcB at hok
  simp only [Bool.and_eq_true, decide_eq_true_eq] at hok
  omega
set_option maxRecDepth 100000 in
set_option maxHeartbeats 2000000 in
theorem id_bad (k n t s : Int) (od : List Nat) (a : Option Addr) (m c : Nat) (h : od.length = 32) (w : World) (hbad : manB k n t s m = false) :
    Calls Tryz.prog 59 #[.agg (mcells k n t s od (.slice a m c)).toArray] w fun e w' => e = .returned (.tuple #[.agg (u8s (List.replicate 32 0)).toArray, .int .i64 2]) ∧ Below w.heap.size w w' := by
  obtain ⟨w2, hw2⟩ : ∃ y, y = (w.alloc (.cells (mcells k n t s od (.slice a m c)).toArray 62)).alloc (.cells (u8s (List.replicate 32 0)).toArray 23) := ⟨_, rfl⟩
  have hs1 : (w.alloc (.cells (mcells k n t s od (.slice a m c)).toArray 62)).heap.size = w.heap.size + 1 := by simp
  have hb2 : Below w.heap.size w w2 := by rw [hw2]; exact ((Below.refl _ _).alloc (Nat.le_refl _) _).alloc (by simp) _
  have hM : ManAt w2 w.heap.size k n t s od (.slice a m c) := by
    rw [hw2]
    exact (heap_alloc_old _ _ (by simp)).trans (heap_new _ _)
  have HR := hid (show OwnD w2 (w.heap.size + 1) (List.replicate 32 0) from by rw [hw2, ← hs1]; exact heap_new _ _)
  have HB := hid hb2
  have HRA := hid (range_of_heapI hM)
  have HIF := hid (show (Tryz.prog.info? 62).map (·.size) = some (mcells k n t s od (.slice a m c)).length from by rw [mcells_length _ _ _ _ _ _ h]; kernel_rfl)
  have HE := hid (fun wx => encode_bad k n t s od a m c h wx hbad)
  have HIF2 := hid (show (Tryz.prog.info? 23).map (·.size) = some (u8s (List.replicate 32 0)).toArray.size from by kernel_rfl)
  have HON := hid (show (u8s (List.replicate 32 0)).toArray.all (·.oneCell') = true from all_oneCell_toArray (u8s_oneH _))
  clear hs1 hb2 hM h hbad
  go_enter Tryz.func59, Tryz.ntmps59
  go_upto_region 1 with fail
  change Code.wp _ _ _ _ ((w.alloc (.cells (mcells k n t s od (.slice a m c)).toArray 62)).alloc (.cells (u8s (List.replicate 32 0)).toArray 23))
  rw [← hw2]
  clear hw2
  go_wp2_with (refine wpList_load_mid (by rfl) 62 (.tmp 1) (by rfl) w.heap.size 0 (by rfl) (mcells k n t s od (.slice a m c)) _ HRA.out Tryz.underlying62 rfl HIF.out ?_)
  refine (HE.out w2).mono ?_
  rintro e w3 ⟨rfl, hb3⟩
  have HR3 := hid ((hb3.block _ (lt_of_heap HR.out)).trans HR.out)
  have HB3 := hid (HB.out.trans (hb3.mono HB.out.size))
  clear hb3
  go_wp2_with (refine wpList_store_row (by rfl) 23 (.tmp 2) (.tmp 13) (by rfl) (w.heap.size + 1) _ (u8s (List.replicate 32 0)).toArray _ (by rfl) (by rfl) HR3.out HIF2.out rfl HON.out ?_
               intro w9 hw9 hk9)
  have hres : (loadVar 23 ⟨w.heap.size + 1, 0, none⟩).run Tryz.prog w9 = .ok (.agg (u8s (List.replicate 32 0)).toArray) w9 := run_loadVar_row _ _ 23 23 _ (0, 0) _ hw9 Tryz.underlying23 rfl HIF2.out
  refine bodyPost_ret (v := .tuple #[.agg (u8s (List.replicate 32 0)).toArray, .int .i64 2]) (results_di Tryz.results59 rfl hres rfl) rfl ⟨rfl, ?_⟩
  exact HB3.out.trans (hk9.below HB3.out.size (by omega))

set_option maxRecDepth 100000 in
set_option maxHeartbeats 2000000 in
theorem id_ok (k n t s : Nat) (od : List Nat) (D : List (List Nat)) (v : Value) (h : od.length = 32) (hol : ∀ x ∈ od, x < 256) (w : World) (V : Vars w shaRound shaStart) (hD : DgAt w v D) (hok : manB k n t s D.length = true) :
    Calls Tryz.prog 59 #[.agg (mcells k n t s od v).toArray] w fun e w' => e = .returned (.tuple #[.agg (u8s (dig shaRound shaStart (encTo k n t s od D t))).toArray, .int .i64 0]) ∧ Below w.heap.size w w' := by
  obtain ⟨w2, hw2⟩ : ∃ y, y = (w.alloc (.cells (mcells k n t s od v).toArray 62)).alloc (.cells (u8s (List.replicate 32 0)).toArray 23) := ⟨_, rfl⟩
  have hs1 : (w.alloc (.cells (mcells k n t s od v).toArray 62)).heap.size = w.heap.size + 1 := by simp
  have hb2 : Below w.heap.size w w2 := by rw [hw2]; exact ((Below.refl _ _).alloc (Nat.le_refl _) _).alloc (by simp) _
  have hM : ManAt w2 w.heap.size k n t s od v := by
    rw [hw2]
    exact (heap_alloc_old _ _ (by simp)).trans (heap_new _ _)
  have HR := hid (show OwnD w2 (w.heap.size + 1) (List.replicate 32 0) from by rw [hw2, ← hs1]; exact heap_new _ _)
  have HB := hid hb2
  have HRA := hid (range_of_heapI hM)
  have HIF := hid (show (Tryz.prog.info? 62).map (·.size) = some (mcells k n t s od v).length from by rw [mcells_length _ _ _ _ _ _ h]; kernel_rfl)
  have ht := manB_num hok
  have HE := hid (fun wx (b : Below w2.heap.size w2 wx) => encode_to k n t s od D v h hol wx (dgat_below (dgat_below hD hb2) b) hok)
  obtain ⟨L, hL⟩ : ∃ L, L = 39 + 32 * t := ⟨_, rfl⟩
  obtain ⟨l, hl⟩ : ∃ l, l = encTo k n t s od D t := ⟨_, rfl⟩
  have hLb : L ≤ 10000 := by omega
  have V2 := V.below hb2
  have HH := hid (fun (wx : World) (b : Below w2.heap.size w2 wx) (a : Option Addr) (c : Nat) (hb : Bs wx (.slice a L c) l) (hc : L ≤ c) (hn : a = none → c = 0) => SHA256_any a L c shaRound shaStart l wx (V2.below b) hb hc (by omega))
  obtain ⟨DL, hDL⟩ : ∃ DL, DL = dig shaRound shaStart l := ⟨_, rfl⟩
  have HDL := hid hDL
  have h32 : (u8s DL).length = 32 := by rw [hDL]; simp [u8s, dig, digL]
  have HIF2 := hid (show (Tryz.prog.info? 23).map (·.size) = some (u8s DL).toArray.size from by rw [List.size_toArray, h32]; kernel_rfl)
  have HSZ := hid (show (u8s (List.replicate 32 0)).toArray.size = (u8s DL).toArray.size from by rw [List.size_toArray, List.size_toArray, h32]; rfl)
  have HON := hid (show (u8s DL).toArray.all (·.oneCell') = true from all_oneCell_toArray (u8s_oneH DL))
  rw [← hL, ← hl] at HE
  rw [← hl]
  rw [← hDL] at HH
  rw [← hDL]
  clear hs1 hb2 hM h hok hol hD V V2 hL hl hDL h32 hLb ht
  go_enter Tryz.func59, Tryz.ntmps59
  go_upto_region 1 with fail
  change Code.wp _ _ _ _ ((w.alloc (.cells (mcells k n t s od v).toArray 62)).alloc (.cells (u8s (List.replicate 32 0)).toArray 23))
  rw [← hw2]
  clear hw2
  go_wp2_with (refine wpList_load_mid (by rfl) 62 (.tmp 1) (by rfl) w.heap.size 0 (by rfl) (mcells k n t s od v) _ HRA.out Tryz.underlying62 rfl HIF.out ?_)
  refine (HE.out w2 (Below.refl _ _)).mono ?_
  rintro e w3 ⟨a3, c3, rfl, hbs3, hc3, hn3, hb3⟩
  have HR3 := hid ((hb3.block _ (lt_of_heap HR.out)).trans HR.out)
  have HB3 := hid (HB.out.trans (hb3.mono HB.out.size))
  have HHA := hid (HH.out w3 hb3 a3 c3 hbs3 hc3 hn3)
  have HLT := hid (Nat.lt_of_lt_of_le (lt_of_heap HR.out) hb3.size)
  clear hb3 hbs3 hc3 hn3
  go_wp2_with fail
  refine HHA.out.mono ?_
  rintro e w4 ⟨rfl, hb4⟩
  have HR4 := hid ((hb4.block _ HLT.out).trans HR3.out)
  have HB4 := hid (HB3.out.trans (hb4.mono HB3.out.size))
  clear hb4
  go_wp2_with (refine wpList_store_row (by rfl) 23 (.tmp 2) (.tmp 16) (by rfl) (w.heap.size + 1) _ (u8s DL).toArray _ (by rfl) (by rfl) HR4.out HIF2.out HSZ.out HON.out ?_
               intro w9 hw9 hk9)
  have hres : (loadVar 23 ⟨w.heap.size + 1, 0, none⟩).run Tryz.prog w9 = .ok (.agg (u8s DL).toArray) w9 := run_loadVar_row _ _ 23 23 _ (0, 0) _ hw9 Tryz.underlying23 rfl HIF2.out
  refine bodyPost_ret (v := .tuple #[.agg (u8s DL).toArray, .int .i64 0]) (results_di Tryz.results59 rfl hres rfl) rfl ⟨rfl, ?_⟩
  exact HB4.out.trans (hk9.below HB4.out.size (by omega))

set_option maxRecDepth 100000 in
set_option maxHeartbeats 2000000 in
theorem rid_bad (k n t s : Int) (od : List Nat) (a : Option Addr) (m c : Nat) (h : od.length = 32) (w : World) (hbad : manB k n t s m = false) :
    Calls Tryz.prog 77 #[.agg (mcells k n t s od (.slice a m c)).toArray] w fun e w' => e = .returned (.tuple #[.agg (u8s (List.replicate 32 0)).toArray, .int .i64 2]) ∧ Below w.heap.size w w' := by
  obtain ⟨w2, hw2⟩ : ∃ y, y = (w.alloc (.cells (mcells k n t s od (.slice a m c)).toArray 62)).alloc (.cells (u8s (List.replicate 32 0)).toArray 23) := ⟨_, rfl⟩
  have hs1 : (w.alloc (.cells (mcells k n t s od (.slice a m c)).toArray 62)).heap.size = w.heap.size + 1 := by simp
  have hb2 : Below w.heap.size w w2 := by rw [hw2]; exact ((Below.refl _ _).alloc (Nat.le_refl _) _).alloc (by simp) _
  have hM : ManAt w2 w.heap.size k n t s od (.slice a m c) := by
    rw [hw2]
    exact (heap_alloc_old _ _ (by simp)).trans (heap_new _ _)
  have HR := hid (show OwnD w2 (w.heap.size + 1) (List.replicate 32 0) from by rw [hw2, ← hs1]; exact heap_new _ _)
  have HB := hid hb2
  have HRA := hid (range_of_heapI hM)
  have HIF := hid (show (Tryz.prog.info? 62).map (·.size) = some (mcells k n t s od (.slice a m c)).length from by rw [mcells_length _ _ _ _ _ _ h]; kernel_rfl)
  have HE := hid (fun wx => rbytes_bad k n t s od a m c h wx hbad)
  have HIF2 := hid (show (Tryz.prog.info? 23).map (·.size) = some (u8s (List.replicate 32 0)).toArray.size from by kernel_rfl)
  have HON := hid (show (u8s (List.replicate 32 0)).toArray.all (·.oneCell') = true from all_oneCell_toArray (u8s_oneH _))
  clear hs1 hb2 hM h hbad
  go_enter Tryz.func77, Tryz.ntmps77
  go_upto_region 1 with fail
  change Code.wp _ _ _ _ ((w.alloc (.cells (mcells k n t s od (.slice a m c)).toArray 62)).alloc (.cells (u8s (List.replicate 32 0)).toArray 23))
  rw [← hw2]
  clear hw2
  go_wp2_with (refine wpList_load_mid (by rfl) 62 (.tmp 1) (by rfl) w.heap.size 0 (by rfl) (mcells k n t s od (.slice a m c)) _ HRA.out Tryz.underlying62 rfl HIF.out ?_)
  refine (HE.out w2).mono ?_
  rintro e w3 ⟨rfl, hb3⟩
  have HR3 := hid ((hb3.block _ (lt_of_heap HR.out)).trans HR.out)
  have HB3 := hid (HB.out.trans (hb3.mono HB.out.size))
  clear hb3
  go_wp2_with (refine wpList_store_row (by rfl) 23 (.tmp 2) (.tmp 13) (by rfl) (w.heap.size + 1) _ (u8s (List.replicate 32 0)).toArray _ (by rfl) (by rfl) HR3.out HIF2.out rfl HON.out ?_
               intro w9 hw9 hk9)
  have hres : (loadVar 23 ⟨w.heap.size + 1, 0, none⟩).run Tryz.prog w9 = .ok (.agg (u8s (List.replicate 32 0)).toArray) w9 := run_loadVar_row _ _ 23 23 _ (0, 0) _ hw9 Tryz.underlying23 rfl HIF2.out
  refine bodyPost_ret (v := .tuple #[.agg (u8s (List.replicate 32 0)).toArray, .int .i64 2]) (results_di Tryz.results77 rfl hres rfl) rfl ⟨rfl, ?_⟩
  exact HB3.out.trans (hk9.below HB3.out.size (by omega))

set_option maxRecDepth 100000 in
set_option maxHeartbeats 2000000 in
theorem rid_ok (k n t s : Nat) (od : List Nat) (D : List (List Nat)) (v : Value) (h : od.length = 32) (hol : ∀ x ∈ od, x < 256) (w : World) (V : Rnds w) (hD : DgAt w v D) (hok : manB k n t s D.length = true) :
    Calls Tryz.prog 77 #[.agg (mcells k n t s od v).toArray] w fun e w' => e = .returned (.tuple #[.agg (u8s (dig shaRound shaStart (encTo k n t s od D t))).toArray, .int .i64 0]) ∧ Below w.heap.size w w' := by
  obtain ⟨w2, hw2⟩ : ∃ y, y = (w.alloc (.cells (mcells k n t s od v).toArray 62)).alloc (.cells (u8s (List.replicate 32 0)).toArray 23) := ⟨_, rfl⟩
  have hs1 : (w.alloc (.cells (mcells k n t s od v).toArray 62)).heap.size = w.heap.size + 1 := by simp
  have hb2 : Below w.heap.size w w2 := by rw [hw2]; exact ((Below.refl _ _).alloc (Nat.le_refl _) _).alloc (by simp) _
  have hM : ManAt w2 w.heap.size k n t s od v := by
    rw [hw2]
    exact (heap_alloc_old _ _ (by simp)).trans (heap_new _ _)
  have HR := hid (show OwnD w2 (w.heap.size + 1) (List.replicate 32 0) from by rw [hw2, ← hs1]; exact heap_new _ _)
  have HB := hid hb2
  have HRA := hid (range_of_heapI hM)
  have HIF := hid (show (Tryz.prog.info? 62).map (·.size) = some (mcells k n t s od v).length from by rw [mcells_length _ _ _ _ _ _ h]; kernel_rfl)
  have ht := manB_num hok
  have HE := hid (fun wx (b : Below w2.heap.size w2 wx) => rbytes_any k n t s od D v h hol wx (dgat_below (dgat_below hD hb2) b) hok)
  obtain ⟨L, hL⟩ : ∃ L, L = 39 + 32 * t := ⟨_, rfl⟩
  obtain ⟨l, hl⟩ : ∃ l, l = encTo k n t s od D t := ⟨_, rfl⟩
  have hLb : L ≤ 10000 := by omega
  have V2 := V.below hb2
  have HH := hid (fun (wx : World) (b : Below w2.heap.size w2 wx) (a : Option Addr) (c : Nat) (hb : Bs wx (.slice a L c) l) (hc : L ≤ c) (hn : a = none → c = 0) => rsum_any l a L c wx (V2.below b) hb hn (by omega))
  obtain ⟨DL, hDL⟩ : ∃ DL, DL = dig shaRound shaStart l := ⟨_, rfl⟩
  have HDL := hid hDL
  have h32 : (u8s DL).length = 32 := by rw [hDL]; simp [u8s, dig, digL]
  have HIF2 := hid (show (Tryz.prog.info? 23).map (·.size) = some (u8s DL).toArray.size from by rw [List.size_toArray, h32]; kernel_rfl)
  have HSZ := hid (show (u8s (List.replicate 32 0)).toArray.size = (u8s DL).toArray.size from by rw [List.size_toArray, List.size_toArray, h32]; rfl)
  have HON := hid (show (u8s DL).toArray.all (·.oneCell') = true from all_oneCell_toArray (u8s_oneH DL))
  rw [← hL, ← hl] at HE
  rw [← hl]
  rw [← hDL] at HH
  rw [← hDL]
  clear hs1 hb2 hM h hok hol hD V V2 hL hl hDL h32 hLb ht
  go_enter Tryz.func77, Tryz.ntmps77
  go_upto_region 1 with fail
  change Code.wp _ _ _ _ ((w.alloc (.cells (mcells k n t s od v).toArray 62)).alloc (.cells (u8s (List.replicate 32 0)).toArray 23))
  rw [← hw2]
  clear hw2
  go_wp2_with (refine wpList_load_mid (by rfl) 62 (.tmp 1) (by rfl) w.heap.size 0 (by rfl) (mcells k n t s od v) _ HRA.out Tryz.underlying62 rfl HIF.out ?_)
  refine (HE.out w2 (Below.refl _ _)).mono ?_
  rintro e w3 ⟨a3, c3, rfl, hbs3, hc3, hn3, hb3⟩
  have HR3 := hid ((hb3.block _ (lt_of_heap HR.out)).trans HR.out)
  have HB3 := hid (HB.out.trans (hb3.mono HB.out.size))
  have HHA := hid (HH.out w3 hb3 a3 c3 hbs3 hc3 hn3)
  have HLT := hid (Nat.lt_of_lt_of_le (lt_of_heap HR.out) hb3.size)
  clear hb3 hbs3 hc3 hn3
  go_wp2_with fail
  refine HHA.out.mono ?_
  rintro e w4 ⟨rfl, hb4⟩
  have HR4 := hid ((hb4.block _ HLT.out).trans HR3.out)
  have HB4 := hid (HB3.out.trans (hb4.mono HB3.out.size))
  clear hb4
  go_wp2_with (refine wpList_store_row (by rfl) 23 (.tmp 2) (.tmp 16) (by rfl) (w.heap.size + 1) _ (u8s DL).toArray _ (by rfl) (by rfl) HR4.out HIF2.out HSZ.out HON.out ?_
               intro w9 hw9 hk9)
  have hres : (loadVar 23 ⟨w.heap.size + 1, 0, none⟩).run Tryz.prog w9 = .ok (.agg (u8s DL).toArray) w9 := run_loadVar_row _ _ 23 23 _ (0, 0) _ hw9 Tryz.underlying23 rfl HIF2.out
  refine bodyPost_ret (v := .tuple #[.agg (u8s DL).toArray, .int .i64 0]) (results_di Tryz.results77 rfl hres rfl) rfl ⟨rfl, ?_⟩
  exact HB4.out.trans (hk9.below HB4.out.size (by omega))

end Go.Proofs.YtjgiiciniplbnaaGreatDoor

namespace Go.Proofs.YtjgiiciniplbnaaGreatDoor
open Go Go.RowKit
set_option linter.unusedVariables false

/-- the load of a long array behind a guard -/
theorem wpQuiet_load_clsW {P : Program} {ops : Array Oper} {rest : List Oper} {o : Oper} {a : Act} {G : World → Prop} {Q : Act → Prop} (hw : Region.wanted o (yielded ops a.tmps) = true) (ty : TypeId) (x : Operand) (ho : o.op = .load ty x)
    (b off : Nat) (hx : a.eval x = .pointer (some ⟨b, off, none⟩)) (cs : List Value) (d : TypeDesc) (hc : ∀ p : Cls G, p.w.rangeAt b off cs)
    (hu : P.underlying ty = some d) (hd : d.isRow = true) (hi : (P.info? ty).map (·.size) = some cs.length)
    (h : ∀ C, C = cs.toArray → wpQuiet P ops (fun w' => ∃ p : Cls G, w' = p.w) Q rest (a.put o.dst (.agg C))) : wpQuiet P ops (fun w' => ∃ p : Cls G, w' = p.w) Q (o :: rest) a :=
  wpQuiet_step fun K hK => by
    rw [if_pos hw]
    refine ⟨.agg cs.toArray, ?_, hK _ (h _ rfl)⟩
    rintro w' ⟨p, rfl⟩
    have hr := run_loadVar_mid (P := P) p.w b off ty cs d (hc p) hu hd hi
    unfold Oper.quietAt execOp
    simp only [ho, hx, Instr.loadAt, Instr.sureAddr, Sem.run_bind, Sem.run_pure, Result.andThen_ok, hr]
    exact ⟨rfl, rfl⟩
end Go.Proofs.YtjgiiciniplbnaaGreatDoor
