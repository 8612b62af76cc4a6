/-
  split: the first k pieces of an object.
-/
import Derived.Test.YtafkjfpmjhfofaaDoorPiece
import Derived.Test.YtafkjfpmjhfofaaDoorSize
import Derived.Deep.DeepMust
import Derived.Laws.CopyOwn
namespace Go.Proofs.YtafkjfpmjhfofaaDoor
open Go.RowKit

theorem info36 : (Tryd.prog.info? 43).map (fun i => (i.zero, i.size, i.bytes)) = some (some (.agg #[.int .i64 0, .slice none 0 0]), 2, 32) := by kernel_rfl
/-- the cells of pieces -/
def pcells (ps : List (Int × Sl)) : List Value := ps.flatMap fun p => [.int .i64 p.1, .slice p.2.1 p.2.2.1 p.2.2.2]
/-- block b is a row of pieces that may be written -/
def POwn (w : World) (b : Nat) (ps : List (Int × Sl)) : Prop := w.heap[b]? = some (.cells (pcells ps).toArray 43 (0, 0))
/-- a new row of n empty pieces -/
def prow (n : Nat) : Obj := .cells (pcells (List.replicate n (0, none, 0, 0))).toArray 43
theorem pcells_length : ∀ ps, (pcells ps).length = 2 * ps.length
  | [] => rfl
  | p :: ps => by
    show ([_, _] ++ pcells ps).length = _
    simp only [List.length_append, pcells_length ps, List.length_cons, List.length_nil]
    omega
theorem pcells_get0 : ∀ (ps : List (Int × Sl)) (i : Nat) (h : i < ps.length), (pcells ps)[i * 2]? = some (.int .i64 ps[i].1)
  | p :: ps, 0, _ => rfl
  | p :: ps, i + 1, h => by
    show ([_, _] ++ pcells ps)[(i + 1) * 2]? = _
    rw [List.getElem?_append_right (by simp; omega)]
    have := pcells_get0 ps i (by simpa using h)
    rw [show (i + 1) * 2 - [Value.int IntKind.i64 p.1, Value.slice p.2.1 p.2.2.1 p.2.2.2].length = i * 2 from by simp; omega]
    exact this
theorem pcells_get1 : ∀ (ps : List (Int × Sl)) (i : Nat) (h : i < ps.length), (pcells ps)[i * 2 + 1]? = some (.slice ps[i].2.1 ps[i].2.2.1 ps[i].2.2.2)
  | p :: ps, 0, _ => rfl
  | p :: ps, i + 1, h => by
    show ([_, _] ++ pcells ps)[(i + 1) * 2 + 1]? = _
    rw [List.getElem?_append_right (by simp; omega)]
    have := pcells_get1 ps i (by simpa using h)
    rw [show (i + 1) * 2 + 1 - [Value.int IntKind.i64 p.1, Value.slice p.2.1 p.2.2.1 p.2.2.2].length = i * 2 + 1 from by simp; omega]
    exact this
theorem pcells_set : ∀ (ps : List (Int × Sl)) (i : Nat) (p : Int × Sl), i < ps.length → ((pcells ps).set (i * 2) (.int .i64 p.1)).set (i * 2 + 1) (.slice p.2.1 p.2.2.1 p.2.2.2) = pcells (ps.set i p)
  | q :: ps, 0, p, _ => rfl
  | q :: ps, i + 1, p, h => by
    have ih := pcells_set ps i p (by simpa using h)
    show (([_, _] ++ pcells ps).set ((i + 1) * 2) _).set ((i + 1) * 2 + 1) _ = [_, _] ++ pcells (ps.set i p)
    rw [show (i + 1) * 2 = i * 2 + 1 + 1 from by omega]
    show _ :: _ :: (((pcells ps).set (i * 2) _).set (i * 2 + 1) _) = _
    rw [ih]; rfl
theorem POwn.ps {w : World} {b : Nat} {ps : List (Int × Sl)} (h : POwn w b ps) (n c : Nat) (hn : n = ps.length) : Ps w (.slice (some ⟨b, 0, none⟩) n c) ps := by
  subst hn
  refine ⟨_, c, rfl, fun _ => ⟨b, 0, rfl, fun i hi => ?_⟩⟩
  rw [Nat.zero_add, cell_of_heap h, cell_of_heap h]
  exact ⟨by simpa using pcells_get0 ps i hi, by simpa using pcells_get1 ps i hi⟩
theorem POwn.cell0 {w : World} {b : Nat} {ps : List (Int × Sl)} (h : POwn w b ps) (i : Nat) (hi : i < ps.length) : w.cell? ⟨b, i * 2, none⟩ = some (.int .i64 ps[i].1) := by
  rw [cell_of_heap h]; simpa using pcells_get0 ps i hi
theorem POwn.cell1 {w : World} {b : Nat} {ps : List (Int × Sl)} (h : POwn w b ps) (i : Nat) (hi : i < ps.length) : w.cell? ⟨b, i * 2 + 1, none⟩ = some (.slice ps[i].2.1 ps[i].2.2.1 ps[i].2.2.2) := by
  rw [cell_of_heap h]; simpa using pcells_get1 ps i hi
theorem POwn.free {w : World} {b : Nat} {ps : List (Int × Sl)} (h : POwn w b ps) (i : Nat) : w.frozen? ⟨b, i, none⟩ = false := free_of_heap h i
theorem POwn.set {w : World} {b : Nat} {ps : List (Int × Sl)} (h : POwn w b ps) (i : Nat) (hi : i < ps.length) (p : Int × Sl) : POwn ((w.setCell ⟨b, i * 2, none⟩ (.int .i64 p.1)).setCell ⟨b, i * 2 + 1, none⟩ (.slice p.2.1 p.2.2.1 p.2.2.2)) b (ps.set i p) := by
  have h1 := heap_set (heap_set h (i * 2) (.int .i64 p.1)) (i * 2 + 1) (.slice p.2.1 p.2.2.1 p.2.2.2)
  unfold POwn
  rw [h1, ← pcells_set ps i p hi]
  simp
theorem POwn.below {w w' : World} {b B : Nat} {l : List (Int × Sl)} (h : POwn w b l) (k : Below B w w') (hb : b < B) : POwn w' b l := (k.block b hb).trans h
theorem POwn.lt {w : World} {b : Nat} {l : List (Int × Sl)} (h : POwn w b l) : b < w.heap.size := lt_of_block h
theorem POwn.alloc {w : World} {b : Nat} {l : List (Int × Sl)} (h : POwn w b l) (o : Obj) : POwn (w.alloc o) b l := heap_alloc h o
theorem POwn.setCell {w : World} {b : Nat} {l : List (Int × Sl)} (h : POwn w b l) {p : Addr} (hp : p.block ≠ b) (u : Value) : POwn (w.setCell p u) b l := (Below.heap_setCell _ _ _ _ (fun e => hp e.symm)).trans h
theorem POwn.drewN {w : World} {b : Nat} {l : List (Int × Sl)} (h : POwn w b l) (n : Nat) : POwn (w.drewN n) b l := h
theorem made_p (n : Nat) : madeCells #[.int .i64 0, .slice none 0 0] (n * 2) = (pcells (List.replicate n (0, none, 0, 0))).toArray := by
  apply Array.ext
  · simp [madeCells, pcells_length]; omega
  · intro i h1 h2
    have hi : i < n * 2 := by simpa [madeCells] using h1
    apply Option.some.inj
    rw [← Array.getElem?_eq_getElem h2]
    have hmod : i % 2 = 0 ∨ i % 2 = 1 := by omega
    rcases hmod with h | h
    · have hd : i = (i / 2) * 2 := by omega
      have := pcells_get0 (List.replicate n (0, none, 0, 0)) (i / 2) (by simp; omega)
      rw [← hd] at this
      simp [madeCells, h, this]
    · have hd : i = (i / 2) * 2 + 1 := by omega
      have := pcells_get1 (List.replicate n (0, none, 0, 0)) (i / 2) (by simp; omega)
      rw [← hd] at this
      simp [madeCells, h, this]
theorem mk_p (n : Nat) (hn : n ≤ 4398046511104) (w : World) : (Instr.makeSlice 28 (.int .i64 n) (.int .i64 n)).run Tryd.prog w = .ok (.slice (some ⟨w.heap.size, 0, none⟩) n n) (w.alloc (prow n)) := by
  obtain ⟨i0, hi, hz0, hz1, hz2⟩ := info_parts info36
  have h := run_make (P := Tryd.prog) w 28 43 i0 (.agg #[.int .i64 0, .slice none 0 0]) Tryd.underlying28 hi hz0 .i64 .i64 n n (by omega) (by omega) (by rw [hz2]; omega) (by omega)
  rw [h, hz1]
  simp only [Int.toNat_natCast, Value.cells, made_p]
  rfl
/-- the first i of k pieces of L bytes have been made, each in a block of its own -/
def mkps (bf : Nat → Nat) (L k i : Nat) : List (Int × Sl) := (List.range k).map fun j => if j < i then ((j : Int), some ⟨bf j, 0, none⟩, L, L) else (0, none, 0, 0)
theorem mkps_length (bf : Nat → Nat) (L k i : Nat) : (mkps bf L k i).length = k := by simp [mkps]
theorem mkps_zero (bf : Nat → Nat) (L k : Nat) : mkps bf L k 0 = List.replicate k (0, none, 0, 0) := by
  apply List.ext_getElem?
  intro i
  unfold mkps
  by_cases hi : i < k
  · simp [hi]
  · rw [List.getElem?_eq_none (by simp; omega), List.getElem?_eq_none (by simp; omega)]
theorem mkps_get (bf : Nat → Nat) (L k i j : Nat) (h : j < (mkps bf L k i).length) (hj : j < i) : (mkps bf L k i)[j] = ((j : Int), some ⟨bf j, 0, none⟩, L, L) := by
  simp [mkps, hj]
theorem mkps_set (bf : Nat → Nat) (L k i nb : Nat) (hi : i < k) : (mkps bf L k i).set i ((i : Int), some ⟨nb, 0, none⟩, L, L) = mkps (fun j => if j = i then nb else bf j) L k (i + 1) := by
  apply List.ext_getElem?
  intro j
  unfold mkps
  rw [List.getElem?_set]
  simp only [List.length_map, List.length_range, List.getElem?_map]
  by_cases h : i = j
  · subst h
    rw [if_pos rfl, if_pos hi, List.getElem?_range hi]; simp
  · rw [if_neg h]
    by_cases hj : j < k
    · rw [List.getElem?_range hj]
      simp only [Option.map_some]
      by_cases h2 : j < i
      · rw [if_pos h2, if_pos (by omega), if_neg (by omega)]
      · rw [if_neg h2, if_neg (by omega)]
    · rw [List.getElem?_eq_none (by simp; omega)]; rfl
/-- the bytes of piece i of the extended data -/
def spl (d : List Nat) (L i : Nat) : List Nat := (List.range L).map fun c => d.getD (i * L + c) 0
theorem spl_length (d : List Nat) (L i : Nat) : (spl d L i).length = L := by simp [spl]
theorem spl_getD (d : List Nat) (L i c : Nat) (hc : c < L) : (spl d L i).getD c 0 = d.getD (i * L + c) 0 := by
  unfold spl
  rw [List.getD_eq_getElem?_getD, List.getElem?_map, List.getElem?_range hc]; rfl
theorem spl_splice (d : List Nat) (L i : Nat) : splice (u8s (List.replicate L 0)) 0 (u8s ((d.drop (min (i * L) d.length)).take L)) = u8s (spl d L i) := by
  apply List.ext_getElem?
  intro c
  have hlen : ((d.drop (min (i * L) d.length)).take L).length = min L (d.length - min (i * L) d.length) := by simp
  unfold splice
  simp only [List.take_zero, List.nil_append, Nat.zero_add]
  by_cases hc : c < ((d.drop (min (i * L) d.length)).take L).length
  · rw [List.getElem?_append_left (by simpa [u8s] using hc)]
    have h1 : i * L + c < d.length := by omega
    have h2 : min (i * L) d.length = i * L := by omega
    rw [h2]
    simp only [u8s, List.getElem?_map, spl]
    rw [List.getElem?_take_of_lt (by omega), List.getElem?_drop, List.getElem?_range (by omega)]
    simp [List.getElem?_eq_getElem h1]
  · rw [List.getElem?_append_right (by simp [u8s]; omega)]
    by_cases hL : c < L
    · simp only [u8s, List.getElem?_drop, List.length_map, List.getElem?_map, spl]
      rw [List.getElem?_replicate, if_pos (by omega), List.getElem?_range hL]
      simp only [Option.map_some]
      rw [List.getD_eq_getElem?_getD, List.getElem?_eq_none (by omega)]
      rfl
    · rw [List.getElem?_eq_none (by simp [u8s]; omega), List.getElem?_eq_none (by simp [u8s, spl]; omega)]
theorem pown_prow (w : World) (n : Nat) : POwn (w.alloc (prow n)) w.heap.size (List.replicate n (0, none, 0, 0)) := heap_new _ _

set_option maxRecDepth 100000 in
set_option maxHeartbeats 1000000 in
theorem split_any (k : Nat) (a : Option Addr) (n c : Nat) (d : List Nat) (w : World) (hd : Bs w (.slice a n c) d) (hnc : n ≤ c) (h1 : 1 ≤ k) (h2 : k ≤ 255) (h3 : n ≤ 8192) :
    Calls Tryd.prog 63 #[.int .i64 k, .slice a n c] w fun e w' => ∃ bf : Nat → Nat, e = .returned (.slice (some ⟨w.heap.size, 0, none⟩) k k) ∧ POwn w' w.heap.size (mkps bf (plen k n) k k) ∧ (∀ j, j < k → w.heap.size < bf j ∧ Own w' (bf j) (spl d (plen k n) j)) ∧ (∀ i j, i < j → j < k → bf i < bf j) ∧ Below w.heap.size w w' := by
  have hmk := mk_p k (by omega)
  have hpl := plen_le k n h1
  have ho := pown_prow w k
  rw [← mkps_zero (fun _ => 0) (plen k n) k] at ho
  have hb : Below w.heap.size w (w.alloc (prow k)) := (Below.refl _ _).alloc (Nat.le_refl _) _
  have HD0 := hid hd
  have hdl := hd.len
  have HDL := hid hdl
  clear hdl hd
  generalize hL : plen k n = L at *
  have HL := hid hL
  clear hL
  go_enter Tryd.func63, Tryd.ntmps63
  go_wp2_with (go_at_call 44; refine (size_ok k n h1 h2 h3 _).mono ?_; rw [HL.out]; rintro e w' ⟨rfl, rfl⟩)
  clear hmk
  go_loopw [1, 8, 19] (fun dv _ iv wr => ∃ (i : Nat) (bf : Nat → Nat) (a' : Option Addr) (c' : Nat), i ≤ k ∧ iv = .int .i64 i ∧ dv = .slice a' (n - min (i * L) n) c' ∧ n - min (i * L) n ≤ c' ∧ Hid (Bs w (.slice a' (n - min (i * L) n) c') (d.drop (min (i * L) n))) ∧ POwn wr w.heap.size (mkps bf L k i) ∧ Hid (∀ j, j < i → w.heap.size < bf j ∧ Own wr (bf j) (spl d L j)) ∧ Hid (∀ i' j, i' < j → j < i → bf i' < bf j) ∧ Below w.heap.size w wr) (fun _ _ iv _ => k - (intOf iv).toNat)
  case atStart => exact ⟨0, fun _ => 0, a, c, by omega, rfl, by simp, by simpa using hnc, (by rw [Nat.zero_mul, Nat.zero_min, Nat.sub_zero]; exact HD0), ho, fun j hj => absurd hj (Nat.not_lt_zero _), fun i' j _ hj => absurd hj (Nat.not_lt_zero _), hb⟩
  case round =>
    clear ho hb HD0
    obtain ⟨i, bf, a', c', hi, rfl, rfl, hnc', hbs, hpo, HO, HI, hb⟩ := hrel
    by_cases hlt : i < k
    · generalize hq : min (i * L) n = q at *
      have HQ := hid hq
      have hqn : q ≤ n := by omega
      clear hq
      have hmk := mk_u8 L (by omega)
      have c0 := hpo.cell0 i (by rw [mkps_length]; exact hlt)
      have c1 := hpo.cell1 i (by rw [mkps_length]; exact hlt)
      have f0 := hpo.free (i * 2)
      have f1 := hpo.free (i * 2 + 1)
      have hst := mkps_set bf L k i wr.heap.size hlt
      have HST := hid hst
      clear hst
      generalize hp0 : (mkps bf L k i)[i]'(by rw [mkps_length]; exact hlt) = p0 at *
      clear hp0
      have hwsz : w.heap.size < wr.heap.size := hpo.lt
      -- the world behind the store of the new piece
      have hpo1 := (hpo.set i (by rw [mkps_length]; exact hlt) ((i : Int), some ⟨wr.heap.size, 0, none⟩, L, L)).alloc (zrow L)
      rw [HST.out] at hpo1
      have hone : ∀ v ∈ u8s ((d.drop q).take L), v.oneCell' = true := by
        intro v hv
        unfold u8s at hv
        obtain ⟨x, _, rfl⟩ := List.mem_map.1 hv
        rfl
      have HONE := hid hone
      have hlen : (u8s ((d.drop q).take L)).length = Nat.min (n - q) L := by
        show _ = min (n - q) L
        simp [u8s, ← HDL.out]; omega
      have HLEN := hid hlen
      have hbl : (d.drop q).length = n - q := by rw [List.length_drop, ← HDL.out]
      have HBL := hid hbl
      clear hone hlen hbl
      generalize hcs : u8s ((d.drop q).take L) = cs at *
      have HCS := hid hcs
      clear hcs
      have hrow : (((wr.setCell ⟨w.heap.size, i * 2, none⟩ (.int .i64 i)).setCell ⟨w.heap.size, i * 2 + 1, none⟩ (.slice (some ⟨wr.heap.size, 0, none⟩) L L)).alloc (zrow L)).heap[wr.heap.size]? = some (Obj.cells (u8s (List.replicate L 0)).toArray 5) := by
        have := own_zrow ((wr.setCell ⟨w.heap.size, i * 2, none⟩ (.int .i64 i)).setCell ⟨w.heap.size, i * 2 + 1, none⟩ (.slice (some ⟨wr.heap.size, 0, none⟩) L L)) L
        rw [World.size_setCell, World.size_setCell] at this
        exact this
      have hbW : Below w.heap.size w (((wr.setCell ⟨w.heap.size, i * 2, none⟩ (.int .i64 i)).setCell ⟨w.heap.size, i * 2 + 1, none⟩ (.slice (some ⟨wr.heap.size, 0, none⟩) L L)).alloc (zrow L)) := ((hb.setCell (by simp) _).setCell (by simp) _).alloc (by simp; omega) _
      have HROW := hid hrow
      clear hrow
      go_wp2_with (refine wpList_copy_splice rfl (.tmp 34) (.tmp 35) 22 22 rfl 5 Tryd.underlying22 (by kernel_rfl) (some ⟨wr.heap.size, 0, none⟩) a' L L (n - q) c' rfl rfl wr.heap.size 0 (u8s (List.replicate L 0)) 5 ?hg cs HLEN.out ?hpos ?hfit HONE.out wr.heap.size _ (Below.refl _ _) (Nat.le_refl _) ?_)
      case hg => exact (Array.getElem?_eq_some_iff.1 HROW.out).2
      case hfit => rw [HLEN.out]; simp [u8s]; exact Nat.min_le_right _ _
      case hpos =>
        intro hpos
        rcases hbs.out.addr with ⟨he, _⟩ | ⟨_, b2, o2, c2, hv⟩
        · rw [← HCS.out, he] at hpos; simp [u8s] at hpos
        · simp only [Value.slice.injEq] at hv
          obtain ⟨rfl, _, _⟩ := hv
          refine ⟨_, rfl, fun j v hj => ?_⟩
          have hjl : j < cs.length := (List.getElem?_eq_some_iff.1 hj).1
          have hjm : j < min (n - q) L := by have := HLEN.out; rw [this] at hjl; exact hjl
          have hc := hbs.out.cell j (by rw [HBL.out]; omega)
          have e : (⟨b2, o2, none⟩ : Addr).add j = ⟨b2, o2 + j, none⟩ := by unfold Addr.add; split <;> simp_all
          rw [e, hbW.cell (World.block_lt_of_cell? _ _ hc), hc, ← hj, ← HCS.out]
          unfold u8s
          rw [List.getElem?_map, List.getElem?_take_of_lt (by omega), List.getElem?_eq_getElem (by rw [HBL.out]; omega), List.getD_eq_getElem?_getD, List.getElem?_eq_getElem (by rw [HBL.out]; omega)]
          rfl
      intro w2 hg2 hb2
      have hm1 : cs.length ≤ n - q := by rw [HLEN.out]; exact Nat.min_le_left _ _
      have hqs : min ((i + 1) * L) n = q + cs.length := by
        have h5 : cs.length = min (n - q) L := HLEN.out
        have h6 := HQ.out
        rw [h5, Nat.succ_mul]
        generalize i * L = z at *
        omega
      have HQS := hid hqs
      clear hqs
      go_wp2
      refine ⟨⟨i + 1, fun j => if j = i then wr.heap.size else bf j, _, c' - cs.length, by omega, by go_num, by rw [HQS.out, Nat.sub_add_eq], ?_, ?_, ?_, ?_, ?_, ?_⟩, by simp [intOf]; omega⟩
      · rw [HQS.out]; omega
      · rw [HQS.out, Nat.sub_add_eq, ← List.drop_drop]
        exact hbs.out.drop cs.length hm1 hnc'
      · exact (hb2.block w.heap.size (by omega)).trans hpo1
      · intro j hj
        show w.heap.size < (if j = i then wr.heap.size else bf j) ∧ Own w2 (if j = i then wr.heap.size else bf j) (spl d L j)
        by_cases hji : j = i
        · rw [if_pos hji]
          refine ⟨by omega, ?_⟩
          have h7 := hg2.out
          rw [← HCS.out, ← HQ.out, HDL.out, spl_splice] at h7
          rw [hji]
          exact h7
        · rw [if_neg hji]
          obtain ⟨h8, h9⟩ := HO.out j (by omega)
          refine ⟨h8, ?_⟩
          have h10 := h9.lt
          exact (((h9.setCell (by simp; omega) _).setCell (by simp; omega) _).alloc _).below hb2 h10
      · intro i' j hij hj
        show (if i' = i then wr.heap.size else bf i') < (if j = i then wr.heap.size else bf j)
        by_cases hji : j = i
        · rw [if_pos hji, if_neg (by omega)]
          exact ((HO.out i' (by omega)).2).lt
        · rw [if_neg hji, if_neg (by omega)]
          exact HI.out i' j hij (by omega)
      · exact hbW.trans (hb2.mono (by omega))
    · obtain rfl : i = k := by omega
      go_wp2
      go_ret
      exact ⟨bf, rfl, hpo, HO.out, HI.out, hb⟩
end Go.Proofs.YtafkjfpmjhfofaaDoor
