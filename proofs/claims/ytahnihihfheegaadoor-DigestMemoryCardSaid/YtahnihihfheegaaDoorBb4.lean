/-
  newSource and piece: the bytes of any piece from k pieces. · piece: the bytes of any piece from k pieces. · PieceSize and the reference's Length; which sizes are allowed. · split: the first k pieces of an object. · copy between two rows of pieces (two cells each), and the pieces' cells behind it. · fill: the tables are built in 255 rounds. · sync.Once of a Field: build makes the tables at its first call and does nothing later.
-/
import Derived.Test.YtahnihihfheegaaDoorBb3
import Derived.Test.YtahnihihfheegaaDoorBb1
import Derived.Deep.QuietTactic
import Derived.BigQuiet
import Derived.Deep.DeepMust
import Derived.Laws.CopyOwn
import Derived.Defers
import Derived.RegionTactic
import Derived.RegionCalls
namespace Go.Proofs.YtahnihihfheegaaDoor
open Go.RowKit

/-- a slice value: where it begins, its length, its capacity -/
abbrev Sl := Option Addr × Nat × Nat
/-- the slice value v reads as pieces with these numbers and these data slices -/
def Ps (w : World) (v : Value) (ps : List (Int × Sl)) : Prop :=
  ∃ a c, v = .slice a ps.length c ∧ (ps ≠ [] → ∃ b o, a = some ⟨b, o, none⟩ ∧ ∀ i, (h : i < ps.length) → w.cell? ⟨b, o + i * 2, none⟩ = some (.int .i64 ps[i].1) ∧ w.cell? ⟨b, o + i * 2 + 1, none⟩ = some (.slice ps[i].2.1 ps[i].2.2.1 ps[i].2.2.2))
theorem Ps.below {w w' : World} {v : Value} {ps : List (Int × Sl)} (h : Ps w v ps) (k : Below w.heap.size w w') : Ps w' v ps := by
  obtain ⟨a, c, h1, h3⟩ := h
  refine ⟨a, c, h1, fun hl => ?_⟩
  obtain ⟨b, o, ha, hc⟩ := h3 hl
  refine ⟨b, o, ha, fun i hi => ?_⟩
  have := hc i hi
  rw [k.cell (World.block_lt_of_cell? _ _ this.1), k.cell (World.block_lt_of_cell? _ _ this.2)]; exact this

set_option maxRecDepth 100000 in
set_option maxHeartbeats 1000000 in
/-- newSource of pieces with different numbers below 256 -/
theorem newSource_any (fb b o c : Nat) (ps : List (Int × Sl)) (l : List Nat) (w : World) (hB : Built w fb) (hp : Ps w (.slice (some ⟨b, o, none⟩) ps.length c) ps) (h0 : ps.length ≠ 0) (hn : ps.length ≤ 256)
    (hl : l.length = ps.length) (hpl : ∀ i, (h : i < ps.length) → ps[i].1 = ((l.getD i 0 : Nat) : Int)) (hlt : ∀ n ∈ l, n < 256) (hd : l.Nodup) :
    Calls Tryd.prog 53 #[.pointer (some ⟨fb, 0, none⟩), .slice (some ⟨b, o, none⟩) ps.length c] w fun e w' => ∃ pb sb, w.heap.size ≤ pb ∧ w.heap.size ≤ sb ∧ e = .returned (.agg #[.slice (some ⟨b, o, none⟩) ps.length c, .pointer (some ⟨fb, 0, none⟩), .slice (some ⟨pb, 0, none⟩) ps.length ps.length, .slice (some ⟨sb, 0, none⟩) ps.length ps.length]) ∧ Own w' pb l ∧ Own w' sb (scales l) ∧ Below w.heap.size w w' := by
  obtain ⟨n, hnl⟩ : ∃ n, n = ps.length := ⟨_, rfl⟩
  have HN := hid hnl
  rw [← hnl] at hp h0 hn ⊢
  clear hnl
  have hmk := mk_u8 n (by omega)
  have HPL := hid hpl
  have HLT := hid hlt
  have HD := hid hd
  have HP := hid hp
  have HLL := hid hl
  clear hpl hlt hd hp hl
  have hb : Below w.heap.size w ((w.alloc (Obj.cells #[Value.slice none 0 0, Value.pointer none, Value.slice none 0 0, Value.slice none 0 0] 101)).alloc (zrow n)) := ((Below.refl _ _).alloc (Nat.le_refl _) _).alloc (by simp) _
  have ho := own_zrow (w.alloc (Obj.cells #[Value.slice none 0 0, Value.pointer none, Value.slice none 0 0, Value.slice none 0 0] 101)) n
  rw [World.size_alloc, ← upTo_zero n (fun i => l.getD i 0)] at ho
  have hres : ((w.alloc (Obj.cells #[Value.slice none 0 0, Value.pointer none, Value.slice none 0 0, Value.slice none 0 0] 101)).alloc (zrow n)).heap[w.heap.size]? = some (Obj.cells #[Value.slice none 0 0, Value.pointer none, Value.slice none 0 0, Value.slice none 0 0] 101) := heap_alloc (heap_new _ _) _
  have HRES := hid hres
  clear hres
  go_enter Tryd.func53, Tryd.ntmps53
  go_wp2
  clear hmk
  go_loopw [13] (fun i wr => ∃ k : Nat, k ≤ n ∧ i = .int .i64 k ∧ Own wr (w.heap.size + 1) (upTo n (fun i => l.getD i 0) k) ∧ Below w.heap.size w wr ∧ Hid (wr.heap[w.heap.size]? = some (Obj.cells #[Value.slice none 0 0, Value.pointer none, Value.slice none 0 0, Value.slice none 0 0] 101))) (fun i _ => n - (intOf i).toNat)
  case atStart => exact ⟨0, by omega, rfl, ho, hb, HRES⟩
  case round =>
    clear ho hb HRES
    obtain ⟨k, hk, rfl, ho, hb, HRES⟩ := hrel
    by_cases hlt : k < n
    · have hc := (Ps.below HP.out hb)
      obtain ⟨a', c', h1, h3⟩ := hc
      obtain ⟨b', o', ha, hc⟩ := h3 (by intro e; rw [e] at HN; have := HN.out; simp at this; omega)
      simp only [Value.slice.injEq] at h1
      obtain ⟨h4, h5, h6⟩ := h1
      rw [ha] at h4
      simp only [Option.some.injEq, Addr.mk.injEq, and_true] at h4
      obtain ⟨rfl, rfl⟩ := h4
      have hck := hc k (by rw [← HN.out]; exact hlt)
      have c1 := hck.1
      have c2 := hck.2
      rw [HPL.out k (by rw [← HN.out]; exact hlt)] at c1
      have hlk : l.getD k 0 < 256 := by
        rw [List.getD_eq_getElem?_getD, List.getElem?_eq_getElem (by rw [HLL.out, ← HN.out]; exact hlt)]
        exact HLT.out _ (List.getElem_mem _)
      have hst := upTo_set n (fun i => l.getD i 0) k
      have HST := hid hst
      clear hst h3 hc hck h5 h6 ha
      have co := ho.cell k (by rw [upTo_length]; exact hlt)
      have fo := ho.free k
      have hsz : w.heap.size + 1 < wr.heap.size := ho.lt
      generalize hpk : l.getD k 0 = pk at *
      have HPK := hid hpk
      clear hpk
      go_wp2
      go_roundw
      case rel =>
        refine ⟨k + 1, by omega, by go_num, ?_, ?_, ?_⟩
        · rw [← HST.out]
          exact ((ho.set k pk).alloc _)
        · exact (hb.setCell (by simp) _).alloc (by have := hb.size; simp; omega) _
        · exact heap_alloc ((Below.heap_setCell _ _ _ _ (by simp)).trans HRES.out) _
      case measure => simp [intOf]; omega
    · obtain rfl : k = n := by omega
      have hall : upTo k (fun i => l.getD i 0) k = l := by
        rw [upTo_all, HN.out, ← HLL.out, range_getD]
      rw [hall] at ho
      have hkl : k = l.length := by rw [HLL.out, HN.out]
      have HKL := hid hkl
      clear hall hkl
      have hBr := hB.below hb hB.lt
      have hbs := ho.bs HLT.out k
      rw [← HKL.out] at hbs
      have hsz : w.heap.size + 1 < wr.heap.size := ho.lt
      go_wp2_with fail
      refine (newLagrange_n fb (w.heap.size + 1) 0 k k l HKL.out _ hBr hbs hn HD.out).mono ?_
      rintro e w2 ⟨sb, hsb, rfl, hos, hb2⟩
      have hr2 := (hb2.block w.heap.size (by omega)).trans HRES.out
      have q0 := cell_of_heap hr2 0
      have q1 := cell_of_heap hr2 1
      have q2 := cell_of_heap hr2 2
      have q3 := cell_of_heap hr2 3
      have f0 := free_of_heap hr2 0
      have f1 := free_of_heap hr2 1
      have f2 := free_of_heap hr2 2
      have f3 := free_of_heap hr2 3
      clear hr2
      go_wp2
      refine bodyPost_ret (v := .agg #[.slice (some ⟨b, o, none⟩) k c, .pointer (some ⟨fb, 0, none⟩), .slice (some ⟨w.heap.size + 1, 0, none⟩) k k, .slice (some ⟨sb, 0, none⟩) k k]) (by simp [results, Tryd.results53, go_sem, q0, q1, q2, q3]) rfl ⟨w.heap.size + 1, sb, by omega, by omega, rfl, ?_, ?_, ?_⟩
      · exact (((((ho.below hb2 ho.lt).setCell (by simp) _).setCell (by simp) _).setCell (by simp) _).setCell (by simp) _)
      · exact (((hos.setCell (by simp; omega) _).setCell (by simp; omega) _).setCell (by simp; omega) _).setCell (by simp; omega) _
      · exact ((((hb.trans (hb2.mono (by omega))).setCell (by simp) _).setCell (by simp) _).setCell (by simp) _).setCell (by simp) _
theorem newSource_n (fb b o c n : Nat) (ps : List (Int × Sl)) (l : List Nat) (hnp : n = ps.length) (w : World) (hB : Built w fb) (hp : Ps w (.slice (some ⟨b, o, none⟩) n c) ps) (h0 : n ≠ 0) (hn : n ≤ 256)
    (hl : l.length = ps.length) (hpl : ∀ i, (h : i < ps.length) → ps[i].1 = ((l.getD i 0 : Nat) : Int)) (hlt : ∀ n ∈ l, n < 256) (hd : l.Nodup) :
    Calls Tryd.prog 53 #[.pointer (some ⟨fb, 0, none⟩), .slice (some ⟨b, o, none⟩) n c] w fun e w' => ∃ pb sb, w.heap.size ≤ pb ∧ w.heap.size ≤ sb ∧ e = .returned (.agg #[.slice (some ⟨b, o, none⟩) n c, .pointer (some ⟨fb, 0, none⟩), .slice (some ⟨pb, 0, none⟩) n n, .slice (some ⟨sb, 0, none⟩) n n]) ∧ Own w' pb l ∧ Own w' sb (scales l) ∧ Below w.heap.size w w' := by
  subst hnp
  exact newSource_any fb b o c ps l w hB hp h0 hn hl hpl hlt hd
end Go.Proofs.YtahnihihfheegaaDoor

namespace Go.Proofs.YtahnihihfheegaaDoor
open Go.RowKit

/-- the sum of the first k values of f -/
def sx (f : Nat → Nat) : Nat → Nat | 0 => 0 | k + 1 => sx f k ^^^ f k
/-- the sum of the first k rows times their weights -/
def mixL (D : List (List Nat)) (ws : List Nat) (L k : Nat) : List Nat := (List.range L).map fun c => sx (fun i => Gf.tm (ws.getD i 0) ((D.getD i []).getD c 0)) k
theorem sx_lt (f : Nat → Nat) (h : ∀ i, f i < 256) : ∀ k, sx f k < 256
  | 0 => by show 0 < 256; omega
  | k + 1 => Gf.xor_lt (sx_lt f h k) (h k)
theorem sx_congr {f g : Nat → Nat} : ∀ k, (∀ i, i < k → f i = g i) → sx f k = sx g k
  | 0, _ => rfl
  | k + 1, h => by show sx f k ^^^ f k = sx g k ^^^ g k; rw [sx_congr k (fun i hi => h i (by omega)), h k (by omega)]
theorem mixL_length (D : List (List Nat)) (ws : List Nat) (L k : Nat) : (mixL D ws L k).length = L := by simp [mixL]
theorem mixL_getD (D : List (List Nat)) (ws : List Nat) (L k c : Nat) (hc : c < L) : (mixL D ws L k).getD c 0 = sx (fun i => Gf.tm (ws.getD i 0) ((D.getD i []).getD c 0)) k := by
  unfold mixL
  rw [List.getD_eq_getElem?_getD, List.getElem?_map, List.getElem?_range hc]; rfl
theorem mixL_zero (D : List (List Nat)) (ws : List Nat) (L : Nat) : mixL D ws L 0 = List.replicate L 0 := by
  apply List.ext_getElem?
  intro i
  unfold mixL
  by_cases hi : i < L
  · simp [hi, sx]
  · rw [List.getElem?_eq_none (by simp; omega), List.getElem?_eq_none (by simp; omega)]
theorem ext_getD {a b : List Nat} (h : a.length = b.length) (he : ∀ i, i < a.length → a.getD i 0 = b.getD i 0) : a = b := by
  apply List.ext_getElem?
  intro i
  by_cases hi : i < a.length
  · have := he i hi
    rw [List.getD_eq_getElem?_getD, List.getD_eq_getElem?_getD] at this
    rw [List.getElem?_eq_getElem hi, List.getElem?_eq_getElem (by omega)] at this ⊢
    exact congrArg some this
  · rw [List.getElem?_eq_none (by omega), List.getElem?_eq_none (by omega)]
theorem mixL_step (D : List (List Nat)) (ws : List Nat) (L k : Nat) : axTo (mixL D ws L k) 0 (D.getD k []) (ws.getD k 0) L = mixL D ws L (k + 1) := by
  apply ext_getD
  · rw [axTo_length, mixL_length, mixL_length]
  · intro i hi
    rw [axTo_length, mixL_length] at hi
    rw [axTo_getD _ _ _ _ _ (by rw [mixL_length]; omega), if_pos (by omega), mixL_getD _ _ _ _ _ hi, mixL_getD _ _ _ _ _ hi]
    rfl
theorem mixL_skip (D : List (List Nat)) (ws : List Nat) (L k : Nat) (h : ws.getD k 0 = 0) : mixL D ws L (k + 1) = mixL D ws L k := by
  unfold mixL
  apply List.map_congr_left
  intro c _
  show sx _ k ^^^ Gf.tm (ws.getD k 0) _ = _
  rw [h, Gf.tm_zero_left, Nat.xor_zero]
theorem mixL_lt (D : List (List Nat)) (ws : List Nat) (L k : Nat) (hw : ∀ i, ws.getD i 0 < 256) : ∀ n ∈ mixL D ws L k, n < 256 := by
  intro n hn
  unfold mixL at hn
  obtain ⟨c, _, rfl⟩ := List.mem_map.1 hn
  exact sx_lt _ (fun i => Gf.tm_lt _ _ (hw i)) k
theorem getD_lt {l : List Nat} (h : ∀ n ∈ l, n < 256) (i : Nat) : l.getD i 0 < 256 := by
  rw [List.getD_eq_getElem?_getD]
  by_cases hi : i < l.length
  · rw [List.getElem?_eq_getElem hi]; exact h _ (List.getElem_mem _)
  · rw [List.getElem?_eq_none (by omega)]; show 0 < 256; omega
/-- the cells of one piece -/
theorem Ps.cells {w : World} {b o k c : Nat} {ps : List (Int × Sl)} (h : Ps w (.slice (some ⟨b, o, none⟩) k c) ps) (i : Nat) (hi : i < ps.length) : w.cell? ⟨b, o + i * 2, none⟩ = some (.int .i64 ps[i].1) ∧ w.cell? ⟨b, o + i * 2 + 1, none⟩ = some (.slice ps[i].2.1 ps[i].2.2.1 ps[i].2.2.2) := by
  obtain ⟨a', c', h1, h3⟩ := h
  obtain ⟨b', o', ha, hc⟩ := h3 (by intro e; rw [e] at hi; exact absurd hi (Nat.not_lt_zero _))
  simp only [Value.slice.injEq] at h1
  obtain ⟨h4, _, _⟩ := h1
  rw [ha] at h4
  simp only [Option.some.injEq, Addr.mk.injEq, and_true] at h4
  obtain ⟨rfl, rfl⟩ := h4
  exact hc i hi

set_option maxRecDepth 100000 in
set_option maxHeartbeats 1000000 in
theorem piece_any (fb b o c pb po pc sb so sc k L x : Nat) (ps : List (Int × Sl)) (l : List Nat) (D : List (List Nat)) (w : World) (hB : Built w fb) (hp : Ps w (.slice (some ⟨b, o, none⟩) k c) ps) (hk1 : k ≠ 0) (hk : k ≤ 256) (hkp : k = ps.length) (hkl : k = l.length)
    (hD : ∀ i, (h : i < ps.length) → Bs w (.slice ps[i].2.1 ps[i].2.2.1 ps[i].2.2.2) (D.getD i []) ∧ (D.getD i []).length = L)
    (hl : Bs w (.slice (some ⟨pb, po, none⟩) k pc) l) (hs : Bs w (.slice (some ⟨sb, so, none⟩) k sc) (scales l)) (hx : x < 256) (hL : L ≤ 1000000) :
    Calls Tryd.prog 54 #[.agg #[.slice (some ⟨b, o, none⟩) k c, .pointer (some ⟨fb, 0, none⟩), .slice (some ⟨pb, po, none⟩) k pc, .slice (some ⟨sb, so, none⟩) k sc], .int .i64 x] w fun e w' => ∃ ob, w.heap.size ≤ ob ∧ e = .returned (.slice (some ⟨ob, 0, none⟩) L L) ∧ Own w' ob (mixL D (wts l (scales l) x) L k) ∧ Below w.heap.size w w' := by
  obtain ⟨a00, c00, g0⟩ : ∃ a0 c0, w.cell? ⟨b, o + 1, none⟩ = some (.slice a0 L c0) := by
    have h1 := (hp.cells 0 (by omega)).2
    have h2 := (hD 0 (by omega)).1.len
    rw [(hD 0 (by omega)).2] at h2
    rw [h2, Nat.zero_mul, Nat.add_zero] at h1
    exact ⟨_, _, h1⟩
  have HD := hid hD
  have HP := hid hp
  have HKP := hid hkp
  have HKL := hid hkl
  clear hD hp hkp hkl
  have hmk := mk_u8 L (by omega)
  have hbb := World.block_lt_of_cell? _ _ g0
  have g1 : ∀ o', (w.alloc o').cell? ⟨b, o + 1, none⟩ = some (.slice a00 L c00) := fun o' => by rw [World.cell?_alloc_past _ _ _ hbb]; exact g0
  have hb0 : Below w.heap.size w ((w.alloc (Obj.cells #[Value.slice (some ⟨b, o, none⟩) k c, Value.pointer (some ⟨fb, 0, none⟩), Value.slice (some ⟨pb, po, none⟩) k pc, Value.slice (some ⟨sb, so, none⟩) k sc] 101)).alloc (zrow L)) := ((Below.refl _ _).alloc (Nat.le_refl _) _).alloc (by simp) _
  have ho0 := own_zrow (w.alloc (Obj.cells #[Value.slice (some ⟨b, o, none⟩) k c, Value.pointer (some ⟨fb, 0, none⟩), Value.slice (some ⟨pb, po, none⟩) k pc, Value.slice (some ⟨sb, so, none⟩) k sc] 101)) L
  rw [World.size_alloc] at ho0
  have hbox : ((w.alloc (Obj.cells #[Value.slice (some ⟨b, o, none⟩) k c, Value.pointer (some ⟨fb, 0, none⟩), Value.slice (some ⟨pb, po, none⟩) k pc, Value.slice (some ⟨sb, so, none⟩) k sc] 101)).alloc (zrow L)).heap[w.heap.size]? = some (Obj.cells #[Value.slice (some ⟨b, o, none⟩) k c, Value.pointer (some ⟨fb, 0, none⟩), Value.slice (some ⟨pb, po, none⟩) k pc, Value.slice (some ⟨sb, so, none⟩) k sc] 101) := heap_alloc (heap_new _ _) _
  have HBOX := hid hbox
  clear hbox g0
  have hl1 := hl.below hb0
  have hs1 := hs.below hb0
  have hB1 := hB.below hb0 hB.lt
  have HWL := hid (fun i => getD_lt (wts_lt l (scales l) x) i)
  have hwn : (wts l (scales l) x).length = k := by rw [wts_length]; exact HKL.out.symm
  have HWN := hid hwn
  have HWA := hid (wts_lt l (scales l) x)
  clear hwn
  go_enter Tryd.func54, Tryd.ntmps54
  go_wp2_with fail
  refine (weights_n fb pb po pc sb so sc k l (scales l) x HKL.out hx _ hB1 hl1 hs1 hk).mono ?_
  rintro e w2 ⟨ob, hob, rfl, how, hb2⟩
  generalize hws : wts l (scales l) x = ws at *
  have HWS := hid hws
  clear hws
  generalize hw1 : (w.alloc (Obj.cells #[Value.slice (some ⟨b, o, none⟩) k c, Value.pointer (some ⟨fb, 0, none⟩), Value.slice (some ⟨pb, po, none⟩) k pc, Value.slice (some ⟨sb, so, none⟩) k sc] 101)).alloc (zrow L) = w1 at *
  clear hw1 g1 hmk hl1 hs1
  have hsz1 : w.heap.size + 1 < w1.heap.size := ho0.lt
  have ho2 := ho0.below hb2 hsz1
  have hB2 := hB1.below hb2 hB1.lt
  have hb3 : Below w.heap.size w w2 := hb0.trans (hb2.mono (by omega))
  have hbox2 := (hb2.block w.heap.size (by omega)).trans HBOX.out
  have HBOX2 := hid hbox2
  have hobs := hob
  clear hbox2 HBOX ho0 hb0 hb2 hB1 hob
  rw [← mixL_zero D ws L] at ho2
  have hobl := how.lt
  go_wp2
  go_loopw [6, 7, 21] (fun _ _ j wr => ∃ i : Nat, i ≤ k ∧ j = .int .i64 i ∧ Own wr (w.heap.size + 1) (mixL D ws L i) ∧ Below w.heap.size w wr ∧ Built wr fb ∧ Own wr ob ws ∧ Hid (wr.heap[w.heap.size]? = some (Obj.cells #[Value.slice (some ⟨b, o, none⟩) k c, Value.pointer (some ⟨fb, 0, none⟩), Value.slice (some ⟨pb, po, none⟩) k pc, Value.slice (some ⟨sb, so, none⟩) k sc] 101))) (fun _ _ j _ => k - (intOf j).toNat)
  case atStart => exact ⟨0, by omega, rfl, ho2, hb3, hB2, how, HBOX2⟩
  case round =>
    clear ho2 hb3 hB2 how HBOX2 hobl
    obtain ⟨i, hi, rfl, ho2, hb3, hB2, how, HBOX2⟩ := hrel
    by_cases hlt : i < k
    · have cw := how.cell i (by rw [HWN.out]; exact hlt)
      have hwl := HWL.out i
      generalize hwi : ws.getD i 0 = wi at *
      by_cases hw0 : wi = 0
      · have hb1 : ((wi : Int) != 0) = false := by simp [hw0]
        have hst := mixL_skip D ws L i (by rw [hwi, hw0])
        have HST := hid hst
        clear hst hw0 hwi
        go_wp2
        refine ⟨⟨i + 1, by omega, by go_num, ?_, hb3, hB2, how, HBOX2⟩, by simp [intOf]; omega⟩
        rw [HST.out]; exact ho2
      · have hb1 : ((wi : Int) != 0) = true := by simp; omega
        have hst := mixL_step D ws L i
        rw [hwi] at hst
        have HST := hid hst
        clear hst hw0 hwi
        have hcp := ((Ps.below HP.out hb3).cells i (by rw [← HKP.out]; exact hlt)).2
        have hdi := HD.out i (by rw [← HKP.out]; exact hlt)
        have hbd := hdi.1.below hb3
        have hlen := hdi.2
        have HD1 := hid hdi.1
        have hbl := hdi.1.len
        generalize ps[i].2.1 = da at *
        generalize ps[i].2.2.1 = dn at *
        generalize ps[i].2.2.2 = dc at *
        rw [hlen] at hbl
        subst hbl
        clear hdi
        have e0 : wr.cell? ⟨w.heap.size, 0, none⟩ = some (Value.slice (some ⟨b, o, none⟩) k c) := cell_of_heap HBOX2.out 0
        have e1 : wr.cell? ⟨w.heap.size, 1, none⟩ = some (Value.pointer (some ⟨fb, 0, none⟩)) := cell_of_heap HBOX2.out 1
        have HCP := hid hcp
        go_wp2
        refine region_quiet_tail 11 (by kernel_rfl) (by kernel_rfl) ?_
        simp only [List.take_succ_cons, List.take_zero, List.drop_succ_cons, List.drop_zero]
        repeat (quiet_step (fail))
        refine wpQuiet_nil ?_
        intro nq
        have hoff : 0 < dn → Off (w.heap.size + 1) (.slice da dn dc) := fun h => (HD1.out).off_ge (by intro e; rw [e] at hlen; simp at hlen; omega) (by omega)
        have hfs : fb ≠ w.heap.size + 1 := by have := hB.lt; omega
        go_wp2_with fail
        refine (addScaled_bs fb (w.heap.size + 1) 0 dn dn (mixL D ws dn i) da dc (D.getD i []) wi _ (hB2.drewN nq) (ho2.drewN nq) hfs (by rw [mixL_length]; omega) (hbd.drewN nq) hoff (by omega) hwl (fun j => getD_lt (mixL_lt D ws dn i HWL.out) j)).mono ?_
        rintro e w3 ⟨rfl, ho3, hk3⟩
        rw [HST.out] at ho3
        have hk4 : Kept (w.heap.size + 1) wr w3 := ⟨hk3.os, hk3.tape, hk3.output, hk3.size, hk3.block⟩
        have hszr : w.heap.size + 1 < wr.heap.size := ho2.lt
        go_wp2
        refine ⟨⟨i + 1, by omega, by go_num, ho3, ?_, ?_, ?_, ?_⟩, by simp [intOf]; omega⟩
        · exact hb3.trans (hk4.below (by omega) (by omega))
        · exact (hk4.block fb hB2.lt hfs).trans hB2
        · exact (hk4.block ob how.lt (by omega)).trans how
        · exact (hk4.block w.heap.size (by omega) (by omega)).trans HBOX2.out
    · obtain rfl : i = k := by omega
      go_wp2
      go_ret
      exact ⟨w.heap.size + 1, by omega, rfl, by rw [HWS.out]; exact ho2, hb3⟩
end Go.Proofs.YtahnihihfheegaaDoor

namespace Go.Proofs.YtahnihihfheegaaDoor
open Go.RowKit

/-- the length of a piece -/
def plen (k n : Nat) : Nat := (n + k - 1) / k
theorem size_ok (k n : Nat) (h1 : 1 ≤ k) (h2 : k ≤ 255) (h3 : n ≤ 8192) (w : World) :
    Calls Tryd.prog 39 #[.int .i64 k, .int .i64 n] w fun e w' => e = .returned (.tuple #[.int .i64 (plen k n), .int .i64 0]) ∧ w = w' := by
  have b1 : decide ((k : Int) < 1) = false := by simp; omega
  have b2 : decide ((255 : Int) < (k : Int)) = false := by simp; omega
  have b3 : decide ((n : Int) < 0) = false := by simp
  have b4 : decide ((8192 : Int) < (n : Int)) = false := by simp; omega
  have hp : (((n : Int) + (k : Int) - 1) / (k : Int)) = (plen k n : Int) := by
    unfold plen
    rw [show ((n : Int) + (k : Int) - 1) = ((n + k - 1 : Nat) : Int) from by omega]
    rfl
  have HP := hid hp
  clear hp
  go_enter Tryd.func39, Tryd.ntmps39
  go_wp2
  go_ret2
  exact ⟨by rw [← HP.out]; rfl, rfl⟩
theorem size_bad (k n : Int) (h : ¬ (1 ≤ k ∧ k ≤ 255 ∧ 0 ≤ n ∧ n ≤ 8192)) (w : World) :
    Calls Tryd.prog 39 #[.int .i64 k, .int .i64 n] w fun e w' => e = .returned (.tuple #[.int .i64 0, .int .i64 2]) ∧ w = w' := by
  by_cases h1 : k < 1
  · go_enter Tryd.func39, Tryd.ntmps39
    go_wp2
    go_ret2
    exact ⟨rfl, rfl⟩
  · by_cases h2 : 255 < k
    · go_enter Tryd.func39, Tryd.ntmps39
      go_wp2
      go_ret2
      exact ⟨rfl, rfl⟩
    · by_cases h3 : n < 0
      · go_enter Tryd.func39, Tryd.ntmps39
        go_wp2
        go_ret2
        exact ⟨rfl, rfl⟩
      · have h4 : 8192 < n := by omega
        go_enter Tryd.func39, Tryd.ntmps39
        go_wp2
        go_ret2
        exact ⟨rfl, rfl⟩

theorem plen_ge (k n : Nat) (h1 : 1 ≤ k) : n ≤ k * plen k n := by
  unfold plen
  have := Nat.div_add_mod (n + k - 1) k
  have h2 := Nat.mod_lt (n + k - 1) (show 0 < k by omega)
  omega
theorem plen_lt (k n l : Nat) (h1 : 1 ≤ k) (h : l < plen k n) : k * l < n := by
  unfold plen at h
  have h2 : (l + 1) * k ≤ n + k - 1 := (Nat.le_div_iff_mul_le (by omega)).1 h
  have h3 : (l + 1) * k = k * l + k := by rw [Nat.succ_mul, Nat.mul_comm]
  omega
theorem plen_le (k n : Nat) (h1 : 1 ≤ k) : plen k n ≤ n := by
  unfold plen
  rw [Nat.div_le_iff_le_mul_add_pred (by omega)]
  have := Nat.le_mul_of_pos_left n (show 0 < k by omega)
  omega

/-- are the sizes of a code allowed? -/
def okCode (k t : Int) : Bool := decide (1 ≤ k) && decide (k ≤ t) && decide (t ≤ 255)
theorem okCode_yes {k t : Int} (h1 : 1 ≤ k) (h2 : k ≤ t) (h3 : t ≤ 255) : okCode k t = true := by simp [okCode, h1, h2, h3]
theorem okCode_no {k t : Int} (h : ¬ (1 ≤ k ∧ k ≤ t ∧ t ≤ 255)) : okCode k t = false := by
  cases e : okCode k t
  · rfl
  · simp [okCode] at e; omega
theorem okCode_iff {k t : Int} : okCode k t = true ↔ 1 ≤ k ∧ k ≤ t ∧ t ≤ 255 := by
  constructor
  · intro e; simp [okCode] at e; omega
  · rintro ⟨h1, h2, h3⟩; exact okCode_yes h1 h2 h3
theorem valid_yes (k t : Int) (h1 : 1 ≤ k) (h2 : k ≤ t) (h3 : t ≤ 255) (w : World) :
    Calls Tryd.prog 49 #[.int .i64 k, .int .i64 t] w fun e w' => e = .returned (.bool true) ∧ w = w' := by
  go_enter Tryd.func49, Tryd.ntmps49
  go_wp2
  go_ret
  exact ⟨rfl, rfl⟩
theorem valid_no (k t : Int) (h : ¬ (1 ≤ k ∧ k ≤ t ∧ t ≤ 255)) (w : World) :
    Calls Tryd.prog 49 #[.int .i64 k, .int .i64 t] w fun e w' => e = .returned (.bool false) ∧ w = w' := by
  by_cases h1 : 1 ≤ k
  · by_cases h2 : k ≤ t
    · have h3 : ¬ t ≤ 255 := by omega
      clear h
      go_enter Tryd.func49, Tryd.ntmps49
      go_wp2
      go_ret
      exact ⟨rfl, rfl⟩
    · clear h
      go_enter Tryd.func49, Tryd.ntmps49
      go_wp2
      go_ret
      exact ⟨rfl, rfl⟩
  · clear h
    go_enter Tryd.func49, Tryd.ntmps49
    go_wp2
    go_ret
    exact ⟨rfl, rfl⟩
end Go.Proofs.YtahnihihfheegaaDoor

namespace Go.Proofs.YtahnihihfheegaaDoor
open Go.RowKit

theorem info36 : (Tryd.prog.info? 44).map (fun i => (i.zero, i.size, i.bytes)) = some (some (.agg #[.int .i64 0, .slice none 0 0]), 2, 32) := by kernel_rfl
/-- the cells of pieces -/
def pcells (ps : List (Int × Sl)) : List Value := ps.flatMap fun p => [.int .i64 p.1, .slice p.2.1 p.2.2.1 p.2.2.2]
/-- block b is a row of pieces that may be written -/
def POwn (w : World) (b : Nat) (ps : List (Int × Sl)) : Prop := w.heap[b]? = some (.cells (pcells ps).toArray 44 (0, 0))
/-- a new row of n empty pieces -/
def prow (n : Nat) : Obj := .cells (pcells (List.replicate n (0, none, 0, 0))).toArray 44
theorem pcells_length : ∀ ps, (pcells ps).length = 2 * ps.length
  | [] => rfl
  | p :: ps => by
    show ([_, _] ++ pcells ps).length = _
    simp only [List.length_append, pcells_length ps, List.length_cons, List.length_nil]
    omega
theorem pcells_get0 : ∀ (ps : List (Int × Sl)) (i : Nat) (h : i < ps.length), (pcells ps)[i * 2]? = some (.int .i64 ps[i].1)
  | p :: ps, 0, _ => rfl
  | p :: ps, i + 1, h => by
    show ([_, _] ++ pcells ps)[(i + 1) * 2]? = _
    rw [List.getElem?_append_right (by simp; omega)]
    have := pcells_get0 ps i (by simpa using h)
    rw [show (i + 1) * 2 - [Value.int IntKind.i64 p.1, Value.slice p.2.1 p.2.2.1 p.2.2.2].length = i * 2 from by simp; omega]
    exact this
theorem pcells_get1 : ∀ (ps : List (Int × Sl)) (i : Nat) (h : i < ps.length), (pcells ps)[i * 2 + 1]? = some (.slice ps[i].2.1 ps[i].2.2.1 ps[i].2.2.2)
  | p :: ps, 0, _ => rfl
  | p :: ps, i + 1, h => by
    show ([_, _] ++ pcells ps)[(i + 1) * 2 + 1]? = _
    rw [List.getElem?_append_right (by simp; omega)]
    have := pcells_get1 ps i (by simpa using h)
    rw [show (i + 1) * 2 + 1 - [Value.int IntKind.i64 p.1, Value.slice p.2.1 p.2.2.1 p.2.2.2].length = i * 2 + 1 from by simp; omega]
    exact this
theorem pcells_set : ∀ (ps : List (Int × Sl)) (i : Nat) (p : Int × Sl), i < ps.length → ((pcells ps).set (i * 2) (.int .i64 p.1)).set (i * 2 + 1) (.slice p.2.1 p.2.2.1 p.2.2.2) = pcells (ps.set i p)
  | q :: ps, 0, p, _ => rfl
  | q :: ps, i + 1, p, h => by
    have ih := pcells_set ps i p (by simpa using h)
    show (([_, _] ++ pcells ps).set ((i + 1) * 2) _).set ((i + 1) * 2 + 1) _ = [_, _] ++ pcells (ps.set i p)
    rw [show (i + 1) * 2 = i * 2 + 1 + 1 from by omega]
    show _ :: _ :: (((pcells ps).set (i * 2) _).set (i * 2 + 1) _) = _
    rw [ih]; rfl
theorem POwn.ps {w : World} {b : Nat} {ps : List (Int × Sl)} (h : POwn w b ps) (n c : Nat) (hn : n = ps.length) : Ps w (.slice (some ⟨b, 0, none⟩) n c) ps := by
  subst hn
  refine ⟨_, c, rfl, fun _ => ⟨b, 0, rfl, fun i hi => ?_⟩⟩
  rw [Nat.zero_add, cell_of_heap h, cell_of_heap h]
  exact ⟨by simpa using pcells_get0 ps i hi, by simpa using pcells_get1 ps i hi⟩
theorem POwn.cell0 {w : World} {b : Nat} {ps : List (Int × Sl)} (h : POwn w b ps) (i : Nat) (hi : i < ps.length) : w.cell? ⟨b, i * 2, none⟩ = some (.int .i64 ps[i].1) := by
  rw [cell_of_heap h]; simpa using pcells_get0 ps i hi
theorem POwn.cell1 {w : World} {b : Nat} {ps : List (Int × Sl)} (h : POwn w b ps) (i : Nat) (hi : i < ps.length) : w.cell? ⟨b, i * 2 + 1, none⟩ = some (.slice ps[i].2.1 ps[i].2.2.1 ps[i].2.2.2) := by
  rw [cell_of_heap h]; simpa using pcells_get1 ps i hi
theorem POwn.free {w : World} {b : Nat} {ps : List (Int × Sl)} (h : POwn w b ps) (i : Nat) : w.frozen? ⟨b, i, none⟩ = false := free_of_heap h i
theorem POwn.set {w : World} {b : Nat} {ps : List (Int × Sl)} (h : POwn w b ps) (i : Nat) (hi : i < ps.length) (p : Int × Sl) : POwn ((w.setCell ⟨b, i * 2, none⟩ (.int .i64 p.1)).setCell ⟨b, i * 2 + 1, none⟩ (.slice p.2.1 p.2.2.1 p.2.2.2)) b (ps.set i p) := by
  have h1 := heap_set (heap_set h (i * 2) (.int .i64 p.1)) (i * 2 + 1) (.slice p.2.1 p.2.2.1 p.2.2.2)
  unfold POwn
  rw [h1, ← pcells_set ps i p hi]
  simp
theorem POwn.below {w w' : World} {b B : Nat} {l : List (Int × Sl)} (h : POwn w b l) (k : Below B w w') (hb : b < B) : POwn w' b l := (k.block b hb).trans h
theorem POwn.lt {w : World} {b : Nat} {l : List (Int × Sl)} (h : POwn w b l) : b < w.heap.size := lt_of_block h
theorem POwn.alloc {w : World} {b : Nat} {l : List (Int × Sl)} (h : POwn w b l) (o : Obj) : POwn (w.alloc o) b l := heap_alloc h o
theorem POwn.setCell {w : World} {b : Nat} {l : List (Int × Sl)} (h : POwn w b l) {p : Addr} (hp : p.block ≠ b) (u : Value) : POwn (w.setCell p u) b l := (Below.heap_setCell _ _ _ _ (fun e => hp e.symm)).trans h
theorem POwn.drewN {w : World} {b : Nat} {l : List (Int × Sl)} (h : POwn w b l) (n : Nat) : POwn (w.drewN n) b l := h
theorem made_p (n : Nat) : madeCells #[.int .i64 0, .slice none 0 0] (n * 2) = (pcells (List.replicate n (0, none, 0, 0))).toArray := by
  apply Array.ext
  · simp [madeCells, pcells_length]; omega
  · intro i h1 h2
    have hi : i < n * 2 := by simpa [madeCells] using h1
    apply Option.some.inj
    rw [← Array.getElem?_eq_getElem h2]
    have hmod : i % 2 = 0 ∨ i % 2 = 1 := by omega
    rcases hmod with h | h
    · have hd : i = (i / 2) * 2 := by omega
      have := pcells_get0 (List.replicate n (0, none, 0, 0)) (i / 2) (by simp; omega)
      rw [← hd] at this
      simp [madeCells, h, this]
    · have hd : i = (i / 2) * 2 + 1 := by omega
      have := pcells_get1 (List.replicate n (0, none, 0, 0)) (i / 2) (by simp; omega)
      rw [← hd] at this
      simp [madeCells, h, this]
theorem mk_p (n : Nat) (hn : n ≤ 4398046511104) (w : World) : (Instr.makeSlice 28 (.int .i64 n) (.int .i64 n)).run Tryd.prog w = .ok (.slice (some ⟨w.heap.size, 0, none⟩) n n) (w.alloc (prow n)) := by
  obtain ⟨i0, hi, hz0, hz1, hz2⟩ := info_parts info36
  have h := run_make (P := Tryd.prog) w 28 44 i0 (.agg #[.int .i64 0, .slice none 0 0]) Tryd.underlying28 hi hz0 .i64 .i64 n n (by omega) (by omega) (by rw [hz2]; omega) (by omega)
  rw [h, hz1]
  simp only [Int.toNat_natCast, Value.cells, made_p]
  rfl
/-- the first i of k pieces of L bytes have been made, each in a block of its own -/
def mkps (bf : Nat → Nat) (L k i : Nat) : List (Int × Sl) := (List.range k).map fun j => if j < i then ((j : Int), some ⟨bf j, 0, none⟩, L, L) else (0, none, 0, 0)
theorem mkps_length (bf : Nat → Nat) (L k i : Nat) : (mkps bf L k i).length = k := by simp [mkps]
theorem mkps_zero (bf : Nat → Nat) (L k : Nat) : mkps bf L k 0 = List.replicate k (0, none, 0, 0) := by
  apply List.ext_getElem?
  intro i
  unfold mkps
  by_cases hi : i < k
  · simp [hi]
  · rw [List.getElem?_eq_none (by simp; omega), List.getElem?_eq_none (by simp; omega)]
theorem mkps_get (bf : Nat → Nat) (L k i j : Nat) (h : j < (mkps bf L k i).length) (hj : j < i) : (mkps bf L k i)[j] = ((j : Int), some ⟨bf j, 0, none⟩, L, L) := by
  simp [mkps, hj]
theorem mkps_set (bf : Nat → Nat) (L k i nb : Nat) (hi : i < k) : (mkps bf L k i).set i ((i : Int), some ⟨nb, 0, none⟩, L, L) = mkps (fun j => if j = i then nb else bf j) L k (i + 1) := by
  apply List.ext_getElem?
  intro j
  unfold mkps
  rw [List.getElem?_set]
  simp only [List.length_map, List.length_range, List.getElem?_map]
  by_cases h : i = j
  · subst h
    rw [if_pos rfl, if_pos hi, List.getElem?_range hi]; simp
  · rw [if_neg h]
    by_cases hj : j < k
    · rw [List.getElem?_range hj]
      simp only [Option.map_some]
      by_cases h2 : j < i
      · rw [if_pos h2, if_pos (by omega), if_neg (by omega)]
      · rw [if_neg h2, if_neg (by omega)]
    · rw [List.getElem?_eq_none (by simp; omega)]; rfl
/-- the bytes of piece i of the extended data -/
def spl (d : List Nat) (L i : Nat) : List Nat := (List.range L).map fun c => d.getD (i * L + c) 0
theorem spl_length (d : List Nat) (L i : Nat) : (spl d L i).length = L := by simp [spl]
theorem spl_getD (d : List Nat) (L i c : Nat) (hc : c < L) : (spl d L i).getD c 0 = d.getD (i * L + c) 0 := by
  unfold spl
  rw [List.getD_eq_getElem?_getD, List.getElem?_map, List.getElem?_range hc]; rfl
theorem spl_splice (d : List Nat) (L i : Nat) : splice (u8s (List.replicate L 0)) 0 (u8s ((d.drop (min (i * L) d.length)).take L)) = u8s (spl d L i) := by
  apply List.ext_getElem?
  intro c
  have hlen : ((d.drop (min (i * L) d.length)).take L).length = min L (d.length - min (i * L) d.length) := by simp
  unfold splice
  simp only [List.take_zero, List.nil_append, Nat.zero_add]
  by_cases hc : c < ((d.drop (min (i * L) d.length)).take L).length
  · rw [List.getElem?_append_left (by simpa [u8s] using hc)]
    have h1 : i * L + c < d.length := by omega
    have h2 : min (i * L) d.length = i * L := by omega
    rw [h2]
    simp only [u8s, List.getElem?_map, spl]
    rw [List.getElem?_take_of_lt (by omega), List.getElem?_drop, List.getElem?_range (by omega)]
    simp [List.getElem?_eq_getElem h1]
  · rw [List.getElem?_append_right (by simp [u8s]; omega)]
    by_cases hL : c < L
    · simp only [u8s, List.getElem?_drop, List.length_map, List.getElem?_map, spl]
      rw [List.getElem?_replicate, if_pos (by omega), List.getElem?_range hL]
      simp only [Option.map_some]
      rw [List.getD_eq_getElem?_getD, List.getElem?_eq_none (by omega)]
      rfl
    · rw [List.getElem?_eq_none (by simp [u8s]; omega), List.getElem?_eq_none (by simp [u8s, spl]; omega)]
theorem pown_prow (w : World) (n : Nat) : POwn (w.alloc (prow n)) w.heap.size (List.replicate n (0, none, 0, 0)) := heap_new _ _

set_option maxRecDepth 100000 in
set_option maxHeartbeats 1000000 in
theorem split_any (k : Nat) (a : Option Addr) (n c : Nat) (d : List Nat) (w : World) (hd : Bs w (.slice a n c) d) (hnc : n ≤ c) (h1 : 1 ≤ k) (h2 : k ≤ 255) (h3 : n ≤ 8192) :
    Calls Tryd.prog 64 #[.int .i64 k, .slice a n c] w fun e w' => ∃ bf : Nat → Nat, e = .returned (.slice (some ⟨w.heap.size, 0, none⟩) k k) ∧ POwn w' w.heap.size (mkps bf (plen k n) k k) ∧ (∀ j, j < k → w.heap.size < bf j ∧ Own w' (bf j) (spl d (plen k n) j)) ∧ (∀ i j, i < j → j < k → bf i < bf j) ∧ Below w.heap.size w w' := by
  have hmk := mk_p k (by omega)
  have hpl := plen_le k n h1
  have ho := pown_prow w k
  rw [← mkps_zero (fun _ => 0) (plen k n) k] at ho
  have hb : Below w.heap.size w (w.alloc (prow k)) := (Below.refl _ _).alloc (Nat.le_refl _) _
  have HD0 := hid hd
  have hdl := hd.len
  have HDL := hid hdl
  clear hdl hd
  generalize hL : plen k n = L at *
  have HL := hid hL
  clear hL
  go_enter Tryd.func64, Tryd.ntmps64
  go_wp2_with (go_at_call 39; refine (size_ok k n h1 h2 h3 _).mono ?_; rw [HL.out]; rintro e w' ⟨rfl, rfl⟩)
  clear hmk
  go_loopw [1, 8, 19] (fun dv _ iv wr => ∃ (i : Nat) (bf : Nat → Nat) (a' : Option Addr) (c' : Nat), i ≤ k ∧ iv = .int .i64 i ∧ dv = .slice a' (n - min (i * L) n) c' ∧ n - min (i * L) n ≤ c' ∧ Hid (Bs w (.slice a' (n - min (i * L) n) c') (d.drop (min (i * L) n))) ∧ POwn wr w.heap.size (mkps bf L k i) ∧ Hid (∀ j, j < i → w.heap.size < bf j ∧ Own wr (bf j) (spl d L j)) ∧ Hid (∀ i' j, i' < j → j < i → bf i' < bf j) ∧ Below w.heap.size w wr) (fun _ _ iv _ => k - (intOf iv).toNat)
  case atStart => exact ⟨0, fun _ => 0, a, c, by omega, rfl, by simp, by simpa using hnc, (by rw [Nat.zero_mul, Nat.zero_min, Nat.sub_zero]; exact HD0), ho, fun j hj => absurd hj (Nat.not_lt_zero _), fun i' j _ hj => absurd hj (Nat.not_lt_zero _), hb⟩
  case round =>
    clear ho hb HD0
    obtain ⟨i, bf, a', c', hi, rfl, rfl, hnc', hbs, hpo, HO, HI, hb⟩ := hrel
    by_cases hlt : i < k
    · generalize hq : min (i * L) n = q at *
      have HQ := hid hq
      have hqn : q ≤ n := by omega
      clear hq
      have hmk := mk_u8 L (by omega)
      have c0 := hpo.cell0 i (by rw [mkps_length]; exact hlt)
      have c1 := hpo.cell1 i (by rw [mkps_length]; exact hlt)
      have f0 := hpo.free (i * 2)
      have f1 := hpo.free (i * 2 + 1)
      have hst := mkps_set bf L k i wr.heap.size hlt
      have HST := hid hst
      clear hst
      generalize hp0 : (mkps bf L k i)[i]'(by rw [mkps_length]; exact hlt) = p0 at *
      clear hp0
      have hwsz : w.heap.size < wr.heap.size := hpo.lt
      -- the world behind the store of the new piece
      have hpo1 := (hpo.set i (by rw [mkps_length]; exact hlt) ((i : Int), some ⟨wr.heap.size, 0, none⟩, L, L)).alloc (zrow L)
      rw [HST.out] at hpo1
      have hone : ∀ v ∈ u8s ((d.drop q).take L), v.oneCell' = true := by
        intro v hv
        unfold u8s at hv
        obtain ⟨x, _, rfl⟩ := List.mem_map.1 hv
        rfl
      have HONE := hid hone
      have hlen : (u8s ((d.drop q).take L)).length = Nat.min (n - q) L := by
        show _ = min (n - q) L
        simp [u8s, ← HDL.out]; omega
      have HLEN := hid hlen
      have hbl : (d.drop q).length = n - q := by rw [List.length_drop, ← HDL.out]
      have HBL := hid hbl
      clear hone hlen hbl
      generalize hcs : u8s ((d.drop q).take L) = cs at *
      have HCS := hid hcs
      clear hcs
      have hrow : (((wr.setCell ⟨w.heap.size, i * 2, none⟩ (.int .i64 i)).setCell ⟨w.heap.size, i * 2 + 1, none⟩ (.slice (some ⟨wr.heap.size, 0, none⟩) L L)).alloc (zrow L)).heap[wr.heap.size]? = some (Obj.cells (u8s (List.replicate L 0)).toArray 5) := by
        have := own_zrow ((wr.setCell ⟨w.heap.size, i * 2, none⟩ (.int .i64 i)).setCell ⟨w.heap.size, i * 2 + 1, none⟩ (.slice (some ⟨wr.heap.size, 0, none⟩) L L)) L
        rw [World.size_setCell, World.size_setCell] at this
        exact this
      have hbW : Below w.heap.size w (((wr.setCell ⟨w.heap.size, i * 2, none⟩ (.int .i64 i)).setCell ⟨w.heap.size, i * 2 + 1, none⟩ (.slice (some ⟨wr.heap.size, 0, none⟩) L L)).alloc (zrow L)) := ((hb.setCell (by simp) _).setCell (by simp) _).alloc (by simp; omega) _
      have HROW := hid hrow
      clear hrow
      go_wp2_with (refine wpList_copy_splice rfl (.tmp 34) (.tmp 35) 22 22 rfl 5 Tryd.underlying22 (by kernel_rfl) (some ⟨wr.heap.size, 0, none⟩) a' L L (n - q) c' rfl rfl wr.heap.size 0 (u8s (List.replicate L 0)) 5 ?hg cs HLEN.out ?hpos ?hfit HONE.out wr.heap.size _ (Below.refl _ _) (Nat.le_refl _) ?_)
      case hg => exact (Array.getElem?_eq_some_iff.1 HROW.out).2
      case hfit => rw [HLEN.out]; simp [u8s]; exact Nat.min_le_right _ _
      case hpos =>
        intro hpos
        rcases hbs.out.addr with ⟨he, _⟩ | ⟨_, b2, o2, c2, hv⟩
        · rw [← HCS.out, he] at hpos; simp [u8s] at hpos
        · simp only [Value.slice.injEq] at hv
          obtain ⟨rfl, _, _⟩ := hv
          refine ⟨_, rfl, fun j v hj => ?_⟩
          have hjl : j < cs.length := (List.getElem?_eq_some_iff.1 hj).1
          have hjm : j < min (n - q) L := by have := HLEN.out; rw [this] at hjl; exact hjl
          have hc := hbs.out.cell j (by rw [HBL.out]; omega)
          have e : (⟨b2, o2, none⟩ : Addr).add j = ⟨b2, o2 + j, none⟩ := by unfold Addr.add; split <;> simp_all
          rw [e, hbW.cell (World.block_lt_of_cell? _ _ hc), hc, ← hj, ← HCS.out]
          unfold u8s
          rw [List.getElem?_map, List.getElem?_take_of_lt (by omega), List.getElem?_eq_getElem (by rw [HBL.out]; omega), List.getD_eq_getElem?_getD, List.getElem?_eq_getElem (by rw [HBL.out]; omega)]
          rfl
      intro w2 hg2 hb2
      have hm1 : cs.length ≤ n - q := by rw [HLEN.out]; exact Nat.min_le_left _ _
      have hqs : min ((i + 1) * L) n = q + cs.length := by
        have h5 : cs.length = min (n - q) L := HLEN.out
        have h6 := HQ.out
        rw [h5, Nat.succ_mul]
        generalize i * L = z at *
        omega
      have HQS := hid hqs
      clear hqs
      go_wp2
      refine ⟨⟨i + 1, fun j => if j = i then wr.heap.size else bf j, _, c' - cs.length, by omega, by go_num, by rw [HQS.out, Nat.sub_add_eq], ?_, ?_, ?_, ?_, ?_, ?_⟩, by simp [intOf]; omega⟩
      · rw [HQS.out]; omega
      · rw [HQS.out, Nat.sub_add_eq, ← List.drop_drop]
        exact hbs.out.drop cs.length hm1 hnc'
      · exact (hb2.block w.heap.size (by omega)).trans hpo1
      · intro j hj
        show w.heap.size < (if j = i then wr.heap.size else bf j) ∧ Own w2 (if j = i then wr.heap.size else bf j) (spl d L j)
        by_cases hji : j = i
        · rw [if_pos hji]
          refine ⟨by omega, ?_⟩
          have h7 := hg2.out
          rw [← HCS.out, ← HQ.out, HDL.out, spl_splice] at h7
          rw [hji]
          exact h7
        · rw [if_neg hji]
          obtain ⟨h8, h9⟩ := HO.out j (by omega)
          refine ⟨h8, ?_⟩
          have h10 := h9.lt
          exact (((h9.setCell (by simp; omega) _).setCell (by simp; omega) _).alloc _).below hb2 h10
      · intro i' j hij hj
        show (if i' = i then wr.heap.size else bf i') < (if j = i then wr.heap.size else bf j)
        by_cases hji : j = i
        · rw [if_pos hji, if_neg (by omega)]
          exact ((HO.out i' (by omega)).2).lt
        · rw [if_neg hji, if_neg (by omega)]
          exact HI.out i' j hij (by omega)
      · exact hbW.trans (hb2.mono (by omega))
    · obtain rfl : i = k := by omega
      go_wp2
      go_ret
      exact ⟨bf, rfl, hpo, HO.out, HI.out, hb⟩
end Go.Proofs.YtahnihihfheegaaDoor

namespace Go.Proofs.YtahnihihfheegaaDoor
open Go Go.RowKit

theorem wpList_copy_pairs {P : Program} {w : World} {ops : Array Oper} {rest : List Oper} {o : Oper} {a : Act} {Q : Exit → Act → World → Prop} (hgd : o.guard = none) (d s : Operand) (dT sT : TypeId)
    (ho : o.op = .call { callee := .builtin .copy, args := #[d, s], argTypes := #[dT, sT] }) (elem : TypeId) (hu : P.underlying dT = some (.slice elem)) (hsz : (P.info? elem).map (·.size) = some 2)
    (g dLen dCap : Nat) (ad : Addr) (sLen sCap : Nat) (hd : a.eval d = .slice (some ⟨g, 0, none⟩) dLen dCap) (hs : a.eval s = .slice (some ad) sLen sCap)
    (cur : List Value) (t : TypeId) (hg : w.heap[g]? = some (.cells cur.toArray t (0, 0))) (cs : List Value) (n : Nat) (hmin : Nat.min sLen dLen = n) (hn : cs.length = n * 2)
    (hsrc : ∀ j v, cs[j]? = some v → w.cell? (ad.add j) = some v) (hfit : cs.length ≤ cur.length) (h1 : ∀ v ∈ cs, v.oneCell' = true)
    (h : ∀ w', Hid (w'.heap[g]? = some (.cells (cs ++ cur.drop cs.length).toArray t (0, 0))) → Kept g w w' → wpList P ops Q rest (a.put o.dst (goInt n)) w') :
    wpList P ops Q (o :: rest) a w := by
  have hl := run_loadCells_list (P := P) w ad cs hsrc
  have hst := run_storeCells_at P g 0 t cs 0 cur.toArray w hg (by simpa using hfit) h1
  have hi : ∃ i, P.info? elem = some i ∧ i.size = 2 := by
    cases hq : P.info? elem with
    | none => simp [hq] at hsz
    | some i => exact ⟨i, rfl, by simpa [hq] using hsz⟩
  obtain ⟨i, hq, hi⟩ := hi
  rw [hn] at hl
  have hrun : (Builtin.copy_ #[dT, sT] o.type #[.slice (some ⟨g, 0, none⟩) dLen dCap, .slice (some ad) sLen sCap]).run P w = .ok (goInt n) (w.setRow g (cs ++ cur.drop cs.length).toArray) := by
    simp only [Nat.add_zero, Nat.zero_add] at hst
    simp [Builtin.copy_, run_underlying hu, Builtin.lenOf, Builtin.firstCells, sizeOf, typeInfo, hq, hi, hmin, hl, hst]
  refine wpList_plain hgd fun K hK => ?_
  unfold Oper.wp
  simp [execOp, ho, resolve, invoke, builtin, hd, hs, hrun, Result.andThen]
  refine hK _ _ (h _ (setRow_heap w g _ _ t _ hg) ⟨rfl, rfl, rfl, by simp [World.setRow], fun k _ hk => setRow_other w g k _ hk⟩)

theorem pcells_append (a b : List (Int × Sl)) : pcells (a ++ b) = pcells a ++ pcells b := by simp [pcells]
theorem mkps_split (bf : Nat → Nat) (L k t : Nat) (h : k ≤ t) : mkps bf L t k = mkps bf L k k ++ List.replicate (t - k) (0, none, 0, 0) := by
  apply List.ext_getElem?
  intro j
  unfold mkps
  by_cases hj : j < k
  · rw [List.getElem?_append_left (by simpa using hj)]
    simp [hj, show j < t by omega]
  · rw [List.getElem?_append_right (by simp; omega)]
    by_cases ht : j < t
    · simp [ht, hj, show j - k < t - k by omega]
    · rw [List.getElem?_eq_none (by simp; omega), List.getElem?_eq_none (by simp; omega)]
theorem pcells_copied (bf : Nat → Nat) (L k t : Nat) (h : k ≤ t) : pcells (mkps bf L k k) ++ (pcells (List.replicate t (0, none, 0, 0))).drop (pcells (mkps bf L k k)).length = pcells (mkps bf L t k) := by
  rw [mkps_split bf L k t h, pcells_append]
  congr 1
  rw [pcells_length, mkps_length]
  have e : List.replicate t ((0 : Int), ((none : Option Addr), 0, 0)) = List.replicate k ((0 : Int), ((none : Option Addr), 0, 0)) ++ List.replicate (t - k) ((0 : Int), ((none : Option Addr), 0, 0)) := by
    rw [List.replicate_append_replicate]; congr 1; omega
  rw [e, pcells_append]
  have hl : (pcells (List.replicate k ((0 : Int), ((none : Option Addr), 0, 0)))).length = 2 * k := by rw [pcells_length]; simp
  rw [← hl, List.drop_left]
theorem pcells_one : ∀ (ps : List (Int × Sl)) (v : Value), v ∈ pcells ps → v.oneCell' = true := by
  intro ps v hv
  unfold pcells at hv
  obtain ⟨p, _, h⟩ := List.mem_flatMap.1 hv
  simp only [List.mem_cons, List.not_mem_nil, or_false] at h
  rcases h with rfl | rfl <;> rfl
/-- the bytes of all pieces -/
def encP (d : List Nat) (k L i : Nat) : List Nat := if i < k then spl d L i else mixL ((List.range k).map (spl d L)) (wts (List.range k) (scales (List.range k)) i) L k
theorem range_map_getD (f : Nat → List Nat) (k i : Nat) (h : i < k) : ((List.range k).map f).getD i [] = f i := by
  rw [List.getD_eq_getElem?_getD, List.getElem?_map, List.getElem?_range h]; rfl
end Go.Proofs.YtahnihihfheegaaDoor

namespace Go.Proofs.YtahnihihfheegaaDoor
open Go.RowKit

/-- block b is a Field whose tables have been built up to k, the lock taken -/
def Filling (w : World) (b k : Nat) : Prop := w.heap[b]? = some (.cells (fcells 0 1 (tabTo k)) 75 (0, 0))
theorem Filling.cell {w : World} {b k : Nat} (h : Filling w b k) (i : Nat) (hi : i < 766) : ∃ v, w.cell? ⟨b, 3 + i, none⟩ = some v :=
  ⟨_, (cell_of_heap h (3 + i)).trans (fcells_get _ _ _ _ (by rw [tabTo_length]; exact hi))⟩
theorem Filling.free {w : World} {b k : Nat} (h : Filling w b k) (i : Nat) : w.frozen? ⟨b, i, none⟩ = false := free_of_heap h i
theorem Filling.step {w : World} {b k : Nat} (h : Filling w b k) : Filling (((w.setCell ⟨b, 3 + k, none⟩ (.int .u8 (Gf.E k))).setCell ⟨b, 3 + (k + 255), none⟩ (.int .u8 (Gf.E k))).setCell ⟨b, 513 + Gf.E k, none⟩ (.int .u8 k)) b (k + 1) := by
  have h1 := heap_set h (3 + k) (.int .u8 (Gf.E k))
  rw [fcells_set] at h1
  have h2 := heap_set h1 (3 + (k + 255)) (.int .u8 (Gf.E k))
  rw [fcells_set] at h2
  have h3 := heap_set h2 (3 + (510 + Gf.E k)) (.int .u8 k)
  rw [fcells_set] at h3
  rw [show 513 + Gf.E k = 3 + (510 + Gf.E k) from by omega]
  exact h3

set_option maxRecDepth 100000 in
theorem fill_any (b : Nat) (w : World) (h : Filling w b 0) :
    Calls Tryd.prog 69 #[.pointer (some ⟨b, 0, none⟩)] w fun e w' => e = .returned (.tuple #[]) ∧ Filling w' b 255 ∧ Kept b w w' := by
  go_enter Tryd.func69, Tryd.ntmps69
  go_wp2
  go_loopw [2, 4] (fun a i wr => ∃ k : Nat, k ≤ 255 ∧ i = .int .i64 k ∧ a = .int .u8 (Gf.E k) ∧ Filling wr b k ∧ Kept b w wr) (fun _ i _ => 255 - (intOf i).toNat)
  case atStart => exact ⟨0, by omega, rfl, rfl, h, Kept.refl _ _⟩
  case round =>
    obtain ⟨k, hk, rfl, rfl, hb, hK⟩ := hrel
    by_cases hlt : k < 255
    · have hE := Gf.E_lt k
      obtain ⟨v1, c1⟩ := hb.cell k (by omega)
      obtain ⟨v2, c2⟩ := hb.cell (k + 255) (by omega)
      obtain ⟨v3, c3⟩ := hb.cell (510 + Gf.E k) (by omega)
      rw [show 3 + (510 + Gf.E k) = 513 + Gf.E k from by omega] at c3
      have f1 := hb.free (3 + k)
      have f2 := hb.free (3 + (k + 255))
      have f3 := hb.free (513 + Gf.E k)
      clear h
      go_wp2_with (go_at_call 81; refine (double_any _ hE _).mono ?_; rintro e w' ⟨rfl, rfl⟩)
      go_roundw
      case rel => exact ⟨k + 1, by omega, by go_num, rfl, hb.step, ((hK.setCell rfl _).setCell rfl _).setCell rfl _⟩
      case measure => simp [intOf]; omega
    · obtain rfl : k = 255 := by omega
      have HK := hid hK
      go_wp2
      go_end0
      exact ⟨rfl, hb, hK⟩
end Go.Proofs.YtahnihihfheegaaDoor

namespace Go.Proofs.YtahnihihfheegaaDoor
open Go.RowKit

theorem disable (w : World) : (callFunc 97 #[]).run Tryd.prog w = .ok (.value (.tuple #[])) w := run_call_mark0 Tryd.func97 (by kernel_rfl) (by kernel_rfl) (by kernel_rfl) .disable (by kernel_rfl) w
theorem enable (w : World) : (callFunc 99 #[]).run Tryd.prog w = .ok (.value (.tuple #[])) w := run_call_mark0 Tryd.func99 (by kernel_rfl) (by kernel_rfl) (by kernel_rfl) .enable (by kernel_rfl) w
theorem acquire (a : Addr) (w : World) : (callFunc 100 #[.pointer (some a)]).run Tryd.prog w = .ok (.value (.tuple #[])) w := run_call_marked Tryd.func100 (by kernel_rfl) (by kernel_rfl) (by kernel_rfl) .acquire (by kernel_rfl) a w
theorem releaseMerge (a : Addr) (w : World) : (callFunc 102 #[.pointer (some a)]).run Tryd.prog w = .ok (.value (.tuple #[])) w := run_call_marked Tryd.func102 (by kernel_rfl) (by kernel_rfl) (by kernel_rfl) .releaseMerge (by kernel_rfl) a w

/-- '(*sync/atomic.Bool).Store(true)' as a deferred call: the cell holds 1. -/
theorem store_deferred (a : Addr) (x : Value) (u : FrameMode) (w : World) (hc : w.cell? a = some x) (hz : w.frozen? a = false) :
    CallsD Tryd.prog 91 #[.pointer (some a), .bool true] u w fun e u' w' => u' = u ∧ (e = .returned (.tuple #[]) ∧ w' = w.drew.setCell a (.int .u32 1)) := by
  have hc' : w.drew.cell? a = some x := by go_simp
  have hz' : w.drew.frozen? a = false := by go_simp
  have hst := run_call_store (P := Tryd.prog) Tryd.func95 (by kernel_rfl) (by kernel_rfl) (by kernel_rfl) (by kernel_rfl) (k := .u32) (y := 1) hc' hz'
  go_enter_d Tryd.func91, Tryd.ntmps91
  go_wp2
  go_region_calls
  all_goals (go_end0; exact ⟨rfl, rfl⟩)

set_option maxRecDepth 100000 in
/-- '(*sync.Mutex).Unlock' as a deferred call, the lock held and nobody waiting. -/
theorem unlock_deferred (a : Addr) (u : FrameMode) (w : World) (hc : w.cell? a = some (.int .i32 1)) (hz : w.frozen? a = false) :
    CallsD Tryd.prog 90 #[.pointer (some a)] u w fun e u' w' => u' = u ∧ (e = .returned (.tuple #[]) ∧ w' = w.setCell a (.int .i32 0)) := by
  have hd := disable
  have he := enable
  have hr := releaseMerge
  have hadd := run_call_add (P := Tryd.prog) Tryd.func103 (by kernel_rfl) (by kernel_rfl) (by kernel_rfl) .i32 (by kernel_rfl) (y := -1) (s := 0) hc hz (by simp [go_sem]; rfl)
  have hcv := run_convert_to_unsafe (P := Tryd.prog) (src := 143) (dst := 147) Tryd.underlying143 Tryd.underlying147 (by kernel_rfl) hc
  go_enter_d Tryd.func90, Tryd.ntmps90
  go_wp2
  go_end0
  go_wp2
  go_end0
  exact ⟨rfl, rfl⟩

set_option maxRecDepth 100000 in
/-- '(*sync.Mutex).Lock', the lock free. -/
theorem lock_free (a : Addr) (w : World) (hc : w.cell? a = some (.int .i32 0)) (hz : w.frozen? a = false) :
    Calls Tryd.prog 89 #[.pointer (some a)] w fun e w' => e = .returned (.tuple #[]) ∧ w' = w.setCell a (.int .i32 1) := by
  have hd := disable
  have he := enable
  have ha := acquire
  have hcas := run_call_cas_hit (P := Tryd.prog) Tryd.func98 (by kernel_rfl) (by kernel_rfl) (by kernel_rfl) .i32 (by kernel_rfl) (y := 1) hc hz
  have hc' : (w.setCell a (.int .i32 1)).cell? a = some (.int .i32 1) := World.cell?_setCell_same w a _ hc
  have hcv := run_convert_to_unsafe (P := Tryd.prog) (src := 143) (dst := 147) Tryd.underlying143 Tryd.underlying147 (by kernel_rfl) hc'
  go_enter Tryd.func89, Tryd.ntmps89
  go_wp2
  first | go_end0 | (simp only [Exit.inBlock, Exit.then]; refine bodyPost_ret (results_none rfl _ _ _) rfl ?_) | refine bodyPost_ret (results_none rfl _ _ _) rfl ?_
  go_wp2
  go_end0
  exact ⟨rfl, rfl⟩

theorem fcells_set0 (d m d' : Int) (tab : List Nat) : (fcells d m tab).setIfInBounds 0 (.int .u32 d') = fcells d' m tab := by simp [fcells]
theorem fcells_set1 (d m m' : Int) (tab : List Nat) : (fcells d m tab).setIfInBounds 1 (.int .i32 m') = fcells d m' tab := by simp [fcells]
theorem fcells_get0 (d m : Int) (tab : List Nat) : (fcells d m tab)[0]? = some (.int .u32 d) := by simp [fcells]
theorem fcells_get1 (d m : Int) (tab : List Nat) : (fcells d m tab)[1]? = some (.int .i32 m) := by simp [fcells]
theorem Fresh.locked {w : World} {b : Nat} (h : Fresh w b) : Filling (w.setCell ⟨b, 1, none⟩ (.int .i32 1)) b 0 := by
  have := heap_set h 1 (.int .i32 1)
  rw [fcells_set1] at this
  exact this
theorem Filling.done {w : World} {b : Nat} (h : Filling w b 255) : Built ((w.drew.setCell ⟨b, 0, none⟩ (.int .u32 1)).setCell ⟨b, 1, none⟩ (.int .i32 0)) b := by
  have h1 := heap_set (w := w.drew) h 0 (.int .u32 1)
  rw [fcells_set0] at h1
  have h2 := heap_set h1 1 (.int .i32 0)
  rw [fcells_set1] at h2
  exact h2

set_option maxRecDepth 100000 in
set_option maxHeartbeats 1600000 in
/-- '(*sync.Once).doSlow' of a Field whose tables are not built, called with its fill. -/
theorem slow_any (b : Nat) (w : World) (h : Fresh w b) :
    Calls Tryd.prog 80 #[.pointer (some ⟨b, 0, none⟩), .func (.func 69) #[.pointer (some ⟨b, 0, none⟩)] #[]] w fun e w' => e = .returned (.tuple #[]) ∧ Built w' b ∧ Kept b w w' := by
  have c0 : w.cell? ⟨b, 0, none⟩ = some (.int .u32 0) := (cell_of_heap h 0).trans (fcells_get0 _ _ _)
  have c1 : w.cell? ⟨b, 1, none⟩ = some (.int .i32 0) := (cell_of_heap h 1).trans (fcells_get1 _ _ _)
  have f0 : w.frozen? ⟨b, 0, none⟩ = false := free_of_heap h 0
  have f1 : w.frozen? ⟨b, 1, none⟩ = false := free_of_heap h 1
  have hF := h.locked
  have hl := run_call_load (P := Tryd.prog) Tryd.func88 (by kernel_rfl) (by kernel_rfl) (by kernel_rfl) .u32 (by kernel_rfl) (w := w.setCell ⟨b, 1, none⟩ (.int .i32 1)) (a := ⟨b, 0, none⟩) (x := 0) ((World.cell?_setCell_other _ ⟨b, 1, none⟩ ⟨b, 0, none⟩ _ (by simp)).trans c0)
  have hnot : ∀ (x : Bool) (w : World), (Op.unary .not (.bool x)).run Tryd.prog w = .ok (.bool (!x)) w := fun _ _ => rfl
  have hK1 : Kept b w (w.setCell ⟨b, 1, none⟩ (.int .i32 1)) := (Kept.refl b w).setCell rfl _
  clear h
  go_enter_defers Tryd.func80, Tryd.ntmps80
  go_wp2_with (first | (go_at_call 89; refine (lock_free ⟨b, 1, none⟩ _ (by go_simp) (by go_simp)).mono ?_; rintro e w' ⟨rfl, rfl⟩) | (go_at_call 79; go_in) | (go_at_call 69; refine (fill_any b _ hF).mono ?_; rintro e w2 ⟨rfl, hF2, hK2⟩))
  have d0 : w2.cell? ⟨b, 0, none⟩ = some (.int .u32 0) := (cell_of_heap hF2 0).trans (fcells_get0 _ _ _)
  have d1 : w2.cell? ⟨b, 1, none⟩ = some (.int .i32 1) := (cell_of_heap hF2 1).trans (fcells_get1 _ _ _)
  have g0 : w2.frozen? ⟨b, 0, none⟩ = false := free_of_heap hF2 0
  have g1 : w2.frozen? ⟨b, 1, none⟩ = false := free_of_heap hF2 1
  refine leaves_cons (f := 91) (args := #[.pointer (some ⟨b, 0, none⟩), .bool true]) (by simp) (by simp [go_sem]) ?_
  refine (store_deferred ⟨b, 0, none⟩ (.int .u32 0) .returning _ d0 g0).mono ?_
  rintro e u' w'' ⟨rfl, rfl, rfl⟩
  refine leaves_cons (f := 90) (args := #[.pointer (some ⟨b, 1, none⟩)]) (by simp [settle]) (by simp [go_sem]) ?_
  refine (unlock_deferred ⟨b, 1, none⟩ _ _ ?_ (by simp [g1])).mono ?_
  · refine (World.cell?_setCell_other _ ⟨b, 0, none⟩ ⟨b, 1, none⟩ _ (by simp)).trans ?_
    rw [World.cell?_drew]
    exact d1
  rintro e u' w'' ⟨rfl, rfl, rfl⟩
  have hfin := hF2.done
  have hkin := ((((hK1.trans hK2).drew).setCell (p := ⟨b, 0, none⟩) rfl (.int .u32 1))).setCell (p := ⟨b, 1, none⟩) rfl (.int .i32 0)
  simp [Leaves, settle, results, Tryd.results80]
  exact ⟨hfin, hkin⟩

/-- '(*sync.Once).Do' of a Field whose tables are not built. -/
theorem do_first (b : Nat) (w : World) (h : Fresh w b) :
    Calls Tryd.prog 68 #[.pointer (some ⟨b, 0, none⟩), .func (.func 69) #[.pointer (some ⟨b, 0, none⟩)] #[]] w fun e w' => e = .returned (.tuple #[]) ∧ Built w' b ∧ Kept b w w' := by
  have c0 : w.cell? ⟨b, 0, none⟩ = some (.int .u32 0) := (cell_of_heap h 0).trans (fcells_get0 _ _ _)
  have hl := run_call_load (P := Tryd.prog) Tryd.func88 (by kernel_rfl) (by kernel_rfl) (by kernel_rfl) .u32 (by kernel_rfl) c0
  have hnot : ∀ (x : Bool) (w : World), (Op.unary .not (.bool x)).run Tryd.prog w = .ok (.bool (!x)) w := fun _ _ => rfl
  go_enter Tryd.func68, Tryd.ntmps68
  go_wp2_with (first | (go_at_call 80; refine (slow_any b _ h).mono ?_; rintro e w' ⟨rfl, hb, hk⟩) | (go_at_call 79; go_in))
  go_end0
  exact ⟨rfl, hb, hk⟩

/-- '(*sync.Once).Do' of a Field with its tables: nothing is done. -/
theorem do_done (b : Nat) (fv : Value) (w : World) (h : Built w b) :
    Calls Tryd.prog 68 #[.pointer (some ⟨b, 0, none⟩), fv] w fun e w' => e = .returned (.tuple #[]) ∧ w = w' := by
  have c0 : w.cell? ⟨b, 0, none⟩ = some (.int .u32 1) := (cell_of_heap h 0).trans (fcells_get0 _ _ _)
  have hl := run_call_load (P := Tryd.prog) Tryd.func88 (by kernel_rfl) (by kernel_rfl) (by kernel_rfl) .u32 (by kernel_rfl) c0
  have hnot : ∀ (x : Bool) (w : World), (Op.unary .not (.bool x)).run Tryd.prog w = .ok (.bool (!x)) w := fun _ _ => rfl
  go_enter Tryd.func68, Tryd.ntmps68
  go_wp2
  go_end0
  exact ⟨rfl, rfl⟩

/-- build -/
theorem build_any (b : Nat) (w : World) (h : Fld w b) :
    Calls Tryd.prog 52 #[.pointer (some ⟨b, 0, none⟩)] w fun e w' => e = .returned (.tuple #[]) ∧ Built w' b ∧ Kept b w w' := by
  have hmf : ∀ (fn : Fn) (first cap : Array Value) (w : World), (Instr.makeFunc fn first cap).run Tryd.prog w = .ok (.func fn first cap) w := fun _ _ _ _ => rfl
  rcases h with h | h
  · go_enter Tryd.func52, Tryd.ntmps52
    go_wp2_with (go_at_call 68; refine (do_first b _ h).mono ?_; rintro e w' ⟨rfl, hb, hk⟩)
    go_end0
    exact ⟨rfl, hb, hk⟩
  · go_enter Tryd.func52, Tryd.ntmps52
    go_wp2_with (go_at_call 68; refine (do_done b _ _ h).mono ?_; rintro e w' ⟨rfl, rfl⟩)
    go_end0
    exact ⟨rfl, h, Kept.refl _ _⟩
end Go.Proofs.YtahnihihfheegaaDoor
