/-
  Byte slices in memory: slices that read as a list of bytes, and blocks of bytes that a call has made.
-/
import Derived.Test.YtafkjfpmjhfofaaDoorBase
namespace Go.Proofs.YtafkjfpmjhfofaaDoor
open Go.RowKit

/-- slice v reads as the bytes l in world w -/
def Bs (w : World) (v : Value) (l : List Nat) : Prop :=
  ∃ a c, v = .slice a l.length c ∧ (∀ n ∈ l, n < 256) ∧ (l ≠ [] → ∃ b o, a = some ⟨b, o, none⟩ ∧ ∀ i, i < l.length → w.cell? ⟨b, o + i, none⟩ = some (.int .u8 (l.getD i 0)))
/-- block b is a row of bytes that may be written -/
def Own (w : World) (b : Nat) (l : List Nat) : Prop := w.heap[b]? = some (.cells (u8s l).toArray 5 (0, 0))
/-- v does not lead into block fb -/
def Off (fb : Nat) : Value → Prop | .slice (some a) _ _ => a.block ≠ fb | _ => True

theorem Bs.lt {w : World} {v : Value} {l : List Nat} (h : Bs w v l) (i : Nat) : l.getD i 0 < 256 := by
  obtain ⟨a, c, _, h2, _⟩ := h
  rw [List.getD_eq_getElem?_getD]
  by_cases hi : i < l.length
  · rw [List.getElem?_eq_getElem hi]; exact h2 _ (List.getElem_mem _)
  · rw [List.getElem?_eq_none (by omega)]; show 0 < 256; omega
theorem Bs.below {w w' : World} {v : Value} {l : List Nat} (h : Bs w v l) (k : Below w.heap.size w w') : Bs w' v l := by
  obtain ⟨a, c, h1, h2, h3⟩ := h
  refine ⟨a, c, h1, h2, fun hl => ?_⟩
  obtain ⟨b, o, ha, hc⟩ := h3 hl
  refine ⟨b, o, ha, fun i hi => ?_⟩
  have := hc i hi
  rw [k.cell (World.block_lt_of_cell? _ _ this)]; exact this
theorem Bs.drewN {w : World} {v : Value} {l : List Nat} (h : Bs w v l) (n : Nat) : Bs (w.drewN n) v l := h.below (bel_drewN (Below.refl _ _) n)
theorem Bs.alloc {w : World} {v : Value} {l : List Nat} (h : Bs w v l) (o : Obj) : Bs (w.alloc o) v l := h.below ((Below.refl _ _).alloc (Nat.le_refl _) o)
theorem Bs.kept {w w' : World} {v : Value} {l : List Nat} {fb : Nat} (h : Bs w v l) (k : Kept fb w w') (ho : Off fb v) : Bs w' v l := by
  obtain ⟨a, c, h1, h2, h3⟩ := h
  refine ⟨a, c, h1, h2, fun hl => ?_⟩
  obtain ⟨b, o, ha, hc⟩ := h3 hl
  refine ⟨b, o, ha, fun i hi => ?_⟩
  have := hc i hi
  subst h1; subst ha
  have hb : b ≠ fb := ho
  rw [World.cell?_of_block (w := w) (k.block b (World.block_lt_of_cell? _ _ this) hb)]; exact this
theorem Own.bs {w : World} {b : Nat} {l : List Nat} (h : Own w b l) (hl : ∀ n ∈ l, n < 256) (c : Nat) : Bs w (.slice (some ⟨b, 0, none⟩) l.length c) l :=
  ⟨_, c, rfl, hl, fun _ => ⟨b, 0, rfl, fun i hi => by
    rw [Nat.zero_add, cell_of_heap h]
    simp [u8s, List.getElem?_map, List.getElem?_eq_getElem hi]⟩⟩
theorem Own.cell {w : World} {b : Nat} {l : List Nat} (h : Own w b l) (i : Nat) (hi : i < l.length) : w.cell? ⟨b, i, none⟩ = some (.int .u8 (l.getD i 0)) := by
  rw [cell_of_heap h]
  simp [u8s, List.getElem?_map, List.getElem?_eq_getElem hi]
theorem Own.free {w : World} {b : Nat} {l : List Nat} (h : Own w b l) (i : Nat) : w.frozen? ⟨b, i, none⟩ = false := free_of_heap h i
theorem Own.set {w : World} {b : Nat} {l : List Nat} (h : Own w b l) (i n : Nat) : Own (w.setCell ⟨b, i, none⟩ (.int .u8 n)) b (l.set i n) := by
  have := heap_set h i (.int .u8 n)
  unfold Own
  rw [this]
  simp [u8s, List.map_set]
theorem Own.below {w w' : World} {b B : Nat} {l : List Nat} (h : Own w b l) (k : Below B w w') (hb : b < B) : Own w' b l := (k.block b hb).trans h
theorem Own.lt {w : World} {b : Nat} {l : List Nat} (h : Own w b l) : b < w.heap.size := lt_of_block h
theorem Own.drewN {w : World} {b : Nat} {l : List Nat} (h : Own w b l) (n : Nat) : Own (w.drewN n) b l := h
theorem Own.alloc {w : World} {b : Nat} {l : List Nat} (h : Own w b l) (o : Obj) : Own (w.alloc o) b l := heap_alloc h o
theorem Own.setCell {w : World} {b : Nat} {l : List Nat} (h : Own w b l) {p : Addr} (hp : p.block ≠ b) (u : Value) : Own (w.setCell p u) b l := (Below.heap_setCell _ _ _ _ (fun e => hp e.symm)).trans h
theorem made_u8 (n : Nat) : madeCells #[.int .u8 0] n = (u8s (List.replicate n 0)).toArray := by
  apply Array.ext
  · simp [madeCells, u8s]
  · intro i h1 h2
    simp [madeCells, u8s, Nat.mod_one]
theorem own_made (w : World) (n : Nat) : Own (w.alloc (.cells (madeCells #[.int .u8 0] n) 5)) w.heap.size (List.replicate n 0) := by
  rw [made_u8]; exact heap_new _ _
/-- a row of n bytes, the first k of which have been filled by f -/
def upTo (n : Nat) (f : Nat → Nat) (k : Nat) : List Nat := (List.range n).map fun i => if i < k then f i else 0
theorem upTo_length (n : Nat) (f : Nat → Nat) (k : Nat) : (upTo n f k).length = n := by simp [upTo]
theorem upTo_zero (n : Nat) (f : Nat → Nat) : upTo n f 0 = List.replicate n 0 := by
  apply List.ext_getElem?
  intro i
  unfold upTo
  by_cases hi : i < n
  · simp [hi]
  · rw [List.getElem?_eq_none (by simp; omega), List.getElem?_eq_none (by simp; omega)]
theorem upTo_all (n : Nat) (f : Nat → Nat) : upTo n f n = (List.range n).map f := by
  unfold upTo
  apply List.map_congr_left
  intro i hi
  rw [if_pos (List.mem_range.1 hi)]
theorem upTo_set (n : Nat) (f : Nat → Nat) (k : Nat) : (upTo n f k).set k (f k) = upTo n f (k + 1) := by
  apply List.ext_getElem?
  intro i
  unfold upTo
  rw [List.getElem?_set]
  simp only [List.length_map, List.length_range, List.getElem?_map]
  by_cases h : k = i
  · subst h
    by_cases hk : k < n
    · rw [if_pos rfl, if_pos hk, List.getElem?_range hk]; simp
    · rw [if_pos rfl, if_neg hk, List.getElem?_eq_none (by simp; omega)]; rfl
  · rw [if_neg h]
    by_cases hi : i < n
    · rw [List.getElem?_range hi]
      simp only [Option.map_some]
      by_cases h2 : i < k
      · rw [if_pos h2, if_pos (by omega)]
      · rw [if_neg h2, if_neg (by omega)]
    · rw [List.getElem?_eq_none (by simp; omega)]; rfl
theorem range_getD (l : List Nat) : (List.range l.length).map (fun i => l.getD i 0) = l := by
  apply List.ext_getElem?
  intro i
  by_cases hi : i < l.length
  · simp [hi]
  · rw [List.getElem?_eq_none (by simp; omega), List.getElem?_eq_none (by omega)]
/-- a new row of n zero bytes -/
def zrow (n : Nat) : Obj := .cells (u8s (List.replicate n 0)).toArray 5
theorem own_zrow (w : World) (n : Nat) : Own (w.alloc (zrow n)) w.heap.size (List.replicate n 0) := heap_new _ _
theorem info5 : (Tryd.prog.info? 5).map (fun i => (i.zero, i.size, i.bytes)) = some (some (.int .u8 0), 1, 1) := by kernel_rfl
theorem mk_u8 (n : Nat) (hn : n ≤ 140737488355328) (w : World) : (Instr.makeSlice 22 (.int .i64 n) (.int .i64 n)).run Tryd.prog w = .ok (.slice (some ⟨w.heap.size, 0, none⟩) n n) (w.alloc (zrow n)) := by
  obtain ⟨i0, hi, hz0, hz1, hz2⟩ := info_parts info5
  have h := run_make (P := Tryd.prog) w 22 5 i0 (.int .u8 0) Tryd.underlying22 hi hz0 .i64 .i64 n n (by omega) (by omega) (by rw [hz2]; omega) (by omega)
  rw [h, hz1]
  simp only [Int.toNat_natCast, Nat.mul_one, Value.cells, made_u8]
  rfl
theorem Bs.cell {w : World} {b o n c : Nat} {l : List Nat} (h : Bs w (.slice (some ⟨b, o, none⟩) n c) l) (i : Nat) (hi : i < l.length) : w.cell? ⟨b, o + i, none⟩ = some (.int .u8 (l.getD i 0)) := by
  obtain ⟨a, c', h1, _, h3⟩ := h
  obtain ⟨b', o', h4, h5⟩ := h3 (by intro e; rw [e] at hi; exact absurd hi (Nat.not_lt_zero _))
  simp only [Value.slice.injEq] at h1
  obtain ⟨h6, _, _⟩ := h1
  rw [h4] at h6
  simp only [Option.some.injEq, Addr.mk.injEq, and_true] at h6
  obtain ⟨rfl, rfl⟩ := h6
  exact h5 i hi
theorem Bs.len {w : World} {a : Option Addr} {n c : Nat} {l : List Nat} (h : Bs w (.slice a n c) l) : n = l.length := by
  obtain ⟨a, c', h1, _, _⟩ := h
  simp only [Value.slice.injEq] at h1
  exact h1.2.1
theorem Bs.off_ge {w : World} {v : Value} {l : List Nat} {sb : Nat} (h : Bs w v l) (hl : l ≠ []) (hsb : w.heap.size ≤ sb) : Off sb v := by
  obtain ⟨a, c, h1, _, h3⟩ := h
  obtain ⟨b, o, ha, hc⟩ := h3 hl
  have : b < w.heap.size := World.block_lt_of_cell? _ _ (hc 0 (List.length_pos_iff.2 hl))
  subst h1; subst ha
  show b ≠ sb
  omega
theorem Bs.drop {w : World} {a : Option Addr} {n c : Nat} {l : List Nat} (h : Bs w (.slice a n c) l) (m : Nat) (hm : m ≤ n) (hc : n ≤ c) : Bs w (.slice (if c = m then a else a.map (fun x => x.add m)) (n - m) (c - m)) (l.drop m) := by
  have hn := h.len
  have hlt := h.lt
  obtain ⟨a', c', h1, h2, h3⟩ := h
  simp only [Value.slice.injEq] at h1
  obtain ⟨rfl, _, _⟩ := h1
  refine ⟨_, c - m, by rw [List.length_drop, ← hn], fun x hx => h2 x (List.mem_of_mem_drop hx), fun hl => ?_⟩
  have hml : m < l.length := by
    rcases Nat.lt_or_ge m l.length with h | h
    · exact h
    · exact absurd (List.drop_eq_nil_of_le h) hl
  obtain ⟨b, o, ha, hcell⟩ := h3 (by intro e; rw [e] at hml; exact absurd hml (Nat.not_lt_zero _))
  refine ⟨b, o + m, ?_, fun i hi => ?_⟩
  · rw [if_neg (by omega), ha]
    show some (Addr.add _ m) = _
    unfold Addr.add
    split
    · rename_i h0; subst h0; rfl
    · rfl
  · rw [List.length_drop] at hi
    have := hcell (m + i) (by omega)
    rw [show o + m + i = o + (m + i) from by omega, this]
    simp [List.getElem?_drop]
/-- a slice that reads as bytes has an address unless it is empty -/
theorem Bs.addr {w : World} {v : Value} {l : List Nat} (h : Bs w v l) : (l = [] ∧ ∃ a c, v = .slice a 0 c) ∨ (l ≠ [] ∧ ∃ b o c, v = .slice (some ⟨b, o, none⟩) l.length c) := by
  obtain ⟨a, c, h1, _, h3⟩ := h
  by_cases hl : l = []
  · subst hl; exact .inl ⟨rfl, a, c, h1⟩
  · obtain ⟨b, o, h4, _⟩ := h3 hl
    exact .inr ⟨hl, b, o, c, by rw [h1, h4]⟩
theorem bs_nil (w : World) : Bs w (.slice none 0 0) [] := ⟨none, 0, rfl, fun _ h => absurd h (List.not_mem_nil), fun h => absurd rfl h⟩
theorem bs_of_ints {w : World} {a : Addr} {len cap : Nat} {zs : List Int} (hl : len ≤ cap) (hz : zs.length = cap) (hcell : ∀ i, i < zs.length → w.cell? (a.add i) = some (.int .u8 (zs.getD i 0))) (hwf : ∀ n ∈ zs, (Lit.int .u8 n).wf = true) :
    Bs w (.slice (some a) len cap) ((zs.take len).map Int.toNat) := by
  have hb : ∀ n ∈ zs, 0 ≤ n ∧ n < 256 := fun n hn => by
    have := hwf n hn
    simp [Lit.wf] at this
    have e1 : IntKind.u8.min = 0 := rfl
    have e2 : IntKind.u8.max = 255 := rfl
    omega
  have hlen : ((zs.take len).map Int.toNat).length = len := by simp; omega
  refine ⟨some a, cap, by rw [hlen], fun n hn => ?_, fun hne => ?_⟩
  · obtain ⟨x, hx, rfl⟩ := List.mem_map.1 hn
    have := hb x (List.mem_of_mem_take hx)
    omega
  · have h0 : 0 < len := by
      rcases Nat.eq_zero_or_pos len with h | h
      · subst h; exact absurd rfl hne
      · exact h
    obtain ⟨b, o, spot⟩ := a
    have hc := hcell 0 (by omega)
    have hspot : spot = none := by simpa [Addr.add] using World.cell?_spot hc
    subst hspot
    refine ⟨b, o, rfl, fun i hi => ?_⟩
    rw [hlen] at hi
    have h1 := hcell i (by omega)
    have e : (⟨b, o, none⟩ : Addr).add i = ⟨b, o + i, none⟩ := by unfold Addr.add; split <;> simp_all
    rw [e] at h1
    rw [h1]
    have h2 : i < zs.length := by omega
    have h3 := hb zs[i] (List.getElem_mem h2)
    have e2 : zs.getD i 0 = zs[i] := by simp [h2]
    have e3 : ((zs.take len).map Int.toNat).getD i 0 = zs[i].toNat := by
      rw [List.getD_eq_getElem?_getD, List.getElem?_map, List.getElem?_take_of_lt hi, List.getElem?_eq_getElem h2]; rfl
    rw [e2, e3]
    congr 2; omega
end Go.Proofs.YtafkjfpmjhfofaaDoor
