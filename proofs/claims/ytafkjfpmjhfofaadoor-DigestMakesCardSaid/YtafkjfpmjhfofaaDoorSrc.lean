/-
  newSource and piece: the bytes of any piece from k pieces.
-/
import Derived.Test.YtafkjfpmjhfofaaDoorWts
import Derived.Test.YtafkjfpmjhfofaaDoorAdd
namespace Go.Proofs.YtafkjfpmjhfofaaDoor
open Go.RowKit

/-- a slice value: where it begins, its length, its capacity -/
abbrev Sl := Option Addr × Nat × Nat
/-- the slice value v reads as pieces with these numbers and these data slices -/
def Ps (w : World) (v : Value) (ps : List (Int × Sl)) : Prop :=
  ∃ a c, v = .slice a ps.length c ∧ (ps ≠ [] → ∃ b o, a = some ⟨b, o, none⟩ ∧ ∀ i, (h : i < ps.length) → w.cell? ⟨b, o + i * 2, none⟩ = some (.int .i64 ps[i].1) ∧ w.cell? ⟨b, o + i * 2 + 1, none⟩ = some (.slice ps[i].2.1 ps[i].2.2.1 ps[i].2.2.2))
theorem Ps.below {w w' : World} {v : Value} {ps : List (Int × Sl)} (h : Ps w v ps) (k : Below w.heap.size w w') : Ps w' v ps := by
  obtain ⟨a, c, h1, h3⟩ := h
  refine ⟨a, c, h1, fun hl => ?_⟩
  obtain ⟨b, o, ha, hc⟩ := h3 hl
  refine ⟨b, o, ha, fun i hi => ?_⟩
  have := hc i hi
  rw [k.cell (World.block_lt_of_cell? _ _ this.1), k.cell (World.block_lt_of_cell? _ _ this.2)]; exact this

set_option maxRecDepth 100000 in
set_option maxHeartbeats 1000000 in
/-- newSource of pieces with different numbers below 256 -/
theorem newSource_any (fb b o c : Nat) (ps : List (Int × Sl)) (l : List Nat) (w : World) (hB : Built w fb) (hp : Ps w (.slice (some ⟨b, o, none⟩) ps.length c) ps) (h0 : ps.length ≠ 0) (hn : ps.length ≤ 256)
    (hl : l.length = ps.length) (hpl : ∀ i, (h : i < ps.length) → ps[i].1 = ((l.getD i 0 : Nat) : Int)) (hlt : ∀ n ∈ l, n < 256) (hd : l.Nodup) :
    Calls Tryd.prog 64 #[.pointer (some ⟨fb, 0, none⟩), .slice (some ⟨b, o, none⟩) ps.length c] w fun e w' => ∃ pb sb, w.heap.size ≤ pb ∧ w.heap.size ≤ sb ∧ e = .returned (.agg #[.slice (some ⟨b, o, none⟩) ps.length c, .pointer (some ⟨fb, 0, none⟩), .slice (some ⟨pb, 0, none⟩) ps.length ps.length, .slice (some ⟨sb, 0, none⟩) ps.length ps.length]) ∧ Own w' pb l ∧ Own w' sb (scales l) ∧ Below w.heap.size w w' := by
  obtain ⟨n, hnl⟩ : ∃ n, n = ps.length := ⟨_, rfl⟩
  have HN := hid hnl
  rw [← hnl] at hp h0 hn ⊢
  clear hnl
  have hmk := mk_u8 n (by omega)
  have HPL := hid hpl
  have HLT := hid hlt
  have HD := hid hd
  have HP := hid hp
  have HLL := hid hl
  clear hpl hlt hd hp hl
  have hb : Below w.heap.size w ((w.alloc (Obj.cells #[Value.slice none 0 0, Value.pointer none, Value.slice none 0 0, Value.slice none 0 0] 108)).alloc (zrow n)) := ((Below.refl _ _).alloc (Nat.le_refl _) _).alloc (by simp) _
  have ho := own_zrow (w.alloc (Obj.cells #[Value.slice none 0 0, Value.pointer none, Value.slice none 0 0, Value.slice none 0 0] 108)) n
  rw [World.size_alloc, ← upTo_zero n (fun i => l.getD i 0)] at ho
  have hres : ((w.alloc (Obj.cells #[Value.slice none 0 0, Value.pointer none, Value.slice none 0 0, Value.slice none 0 0] 108)).alloc (zrow n)).heap[w.heap.size]? = some (Obj.cells #[Value.slice none 0 0, Value.pointer none, Value.slice none 0 0, Value.slice none 0 0] 108) := heap_alloc (heap_new _ _) _
  have HRES := hid hres
  clear hres
  go_enter Tryd.func64, Tryd.ntmps64
  go_wp2
  clear hmk
  go_loopw [13] (fun i wr => ∃ k : Nat, k ≤ n ∧ i = .int .i64 k ∧ Own wr (w.heap.size + 1) (upTo n (fun i => l.getD i 0) k) ∧ Below w.heap.size w wr ∧ Hid (wr.heap[w.heap.size]? = some (Obj.cells #[Value.slice none 0 0, Value.pointer none, Value.slice none 0 0, Value.slice none 0 0] 108))) (fun i _ => n - (intOf i).toNat)
  case atStart => exact ⟨0, by omega, rfl, ho, hb, HRES⟩
  case round =>
    clear ho hb HRES
    obtain ⟨k, hk, rfl, ho, hb, HRES⟩ := hrel
    by_cases hlt : k < n
    · have hc := (Ps.below HP.out hb)
      obtain ⟨a', c', h1, h3⟩ := hc
      obtain ⟨b', o', ha, hc⟩ := h3 (by intro e; rw [e] at HN; have := HN.out; simp at this; omega)
      simp only [Value.slice.injEq] at h1
      obtain ⟨h4, h5, h6⟩ := h1
      rw [ha] at h4
      simp only [Option.some.injEq, Addr.mk.injEq, and_true] at h4
      obtain ⟨rfl, rfl⟩ := h4
      have hck := hc k (by rw [← HN.out]; exact hlt)
      have c1 := hck.1
      have c2 := hck.2
      rw [HPL.out k (by rw [← HN.out]; exact hlt)] at c1
      have hlk : l.getD k 0 < 256 := by
        rw [List.getD_eq_getElem?_getD, List.getElem?_eq_getElem (by rw [HLL.out, ← HN.out]; exact hlt)]
        exact HLT.out _ (List.getElem_mem _)
      have hst := upTo_set n (fun i => l.getD i 0) k
      have HST := hid hst
      clear hst h3 hc hck h5 h6 ha
      have co := ho.cell k (by rw [upTo_length]; exact hlt)
      have fo := ho.free k
      have hsz : w.heap.size + 1 < wr.heap.size := ho.lt
      generalize hpk : l.getD k 0 = pk at *
      have HPK := hid hpk
      clear hpk
      go_wp2
      go_roundw
      case rel =>
        refine ⟨k + 1, by omega, by go_num, ?_, ?_, ?_⟩
        · rw [← HST.out]
          exact ((ho.set k pk).alloc _)
        · exact (hb.setCell (by simp) _).alloc (by have := hb.size; simp; omega) _
        · exact heap_alloc ((Below.heap_setCell _ _ _ _ (by simp)).trans HRES.out) _
      case measure => simp [intOf]; omega
    · obtain rfl : k = n := by omega
      have hall : upTo k (fun i => l.getD i 0) k = l := by
        rw [upTo_all, HN.out, ← HLL.out, range_getD]
      rw [hall] at ho
      have hkl : k = l.length := by rw [HLL.out, HN.out]
      have HKL := hid hkl
      clear hall hkl
      have hBr := hB.below hb hB.lt
      have hbs := ho.bs HLT.out k
      rw [← HKL.out] at hbs
      have hsz : w.heap.size + 1 < wr.heap.size := ho.lt
      go_wp2_with fail
      refine (newLagrange_n fb (w.heap.size + 1) 0 k k l HKL.out _ hBr hbs hn HD.out).mono ?_
      rintro e w2 ⟨sb, hsb, rfl, hos, hb2⟩
      have hr2 := (hb2.block w.heap.size (by omega)).trans HRES.out
      have q0 := cell_of_heap hr2 0
      have q1 := cell_of_heap hr2 1
      have q2 := cell_of_heap hr2 2
      have q3 := cell_of_heap hr2 3
      have f0 := free_of_heap hr2 0
      have f1 := free_of_heap hr2 1
      have f2 := free_of_heap hr2 2
      have f3 := free_of_heap hr2 3
      clear hr2
      go_wp2
      refine bodyPost_ret (v := .agg #[.slice (some ⟨b, o, none⟩) k c, .pointer (some ⟨fb, 0, none⟩), .slice (some ⟨w.heap.size + 1, 0, none⟩) k k, .slice (some ⟨sb, 0, none⟩) k k]) (by simp [results, Tryd.results64, go_sem, q0, q1, q2, q3]) rfl ⟨w.heap.size + 1, sb, by omega, by omega, rfl, ?_, ?_, ?_⟩
      · exact (((((ho.below hb2 ho.lt).setCell (by simp) _).setCell (by simp) _).setCell (by simp) _).setCell (by simp) _)
      · exact (((hos.setCell (by simp; omega) _).setCell (by simp; omega) _).setCell (by simp; omega) _).setCell (by simp; omega) _
      · exact ((((hb.trans (hb2.mono (by omega))).setCell (by simp) _).setCell (by simp) _).setCell (by simp) _).setCell (by simp) _
theorem newSource_n (fb b o c n : Nat) (ps : List (Int × Sl)) (l : List Nat) (hnp : n = ps.length) (w : World) (hB : Built w fb) (hp : Ps w (.slice (some ⟨b, o, none⟩) n c) ps) (h0 : n ≠ 0) (hn : n ≤ 256)
    (hl : l.length = ps.length) (hpl : ∀ i, (h : i < ps.length) → ps[i].1 = ((l.getD i 0 : Nat) : Int)) (hlt : ∀ n ∈ l, n < 256) (hd : l.Nodup) :
    Calls Tryd.prog 64 #[.pointer (some ⟨fb, 0, none⟩), .slice (some ⟨b, o, none⟩) n c] w fun e w' => ∃ pb sb, w.heap.size ≤ pb ∧ w.heap.size ≤ sb ∧ e = .returned (.agg #[.slice (some ⟨b, o, none⟩) n c, .pointer (some ⟨fb, 0, none⟩), .slice (some ⟨pb, 0, none⟩) n n, .slice (some ⟨sb, 0, none⟩) n n]) ∧ Own w' pb l ∧ Own w' sb (scales l) ∧ Below w.heap.size w w' := by
  subst hnp
  exact newSource_any fb b o c ps l w hB hp h0 hn hl hpl hlt hd
end Go.Proofs.YtafkjfpmjhfofaaDoor
