/-
  The rows of PlaceSafe in memory. · index of the laws: a number brought into a range. · Steps of PlaceSafe: a Keep is sent; a Keep comes. · The argument of PlaceSafe, opened.
-/
import Derived.Test.YtjgiiciniplbnaaGreatDoorKb3
import Derived.Test.YtjgiiciniplbnaaGreatDoorKb1
import Derived.Deep.AppendLies
import Derived.Deep.Slices
namespace Go.Proofs.YtjgiiciniplbnaaGreatDoor
open Go Go.RowKit Go.Lib Go.Sort
set_option linter.unusedVariables false

def rowV (f : Nat → Value) (P : Nat) : List Value := (List.range P).map f
theorem rowV_length (f : Nat → Value) (P : Nat) : (rowV f P).length = P := by simp [rowV]
theorem rowV_get (f : Nat → Value) (P i : Nat) (h : i < P) : (rowV f P)[i]? = some (f i) := by simp [rowV, h]
theorem rowV_set (f : Nat → Value) (P a : Nat) (v : Value) : (rowV f P).set a v = rowV (upd f a v) P := by
  apply List.ext_getElem?
  intro i
  rw [List.getElem?_set]
  by_cases h : i < P
  · rw [rowV_get _ _ _ h]
    by_cases e : a = i
    · subst e
      rw [if_pos rfl, if_pos (by rw [rowV_length]; exact h), rowV_get _ _ _ h, upd_same]
    · rw [if_neg e, rowV_get _ _ _ h, upd_other _ _ _ _ (fun h => e h.symm)]
  · rw [List.getElem?_eq_none (l := rowV (upd f a v) P) (by rw [rowV_length]; omega)]
    by_cases e : a = i
    · subst e
      rw [if_pos rfl, if_neg (by rw [rowV_length]; exact h)]
    · rw [if_neg e, List.getElem?_eq_none (by rw [rowV_length]; omega)]
def RowV (w : World) (b : Nat) (T : TypeId) (f : Nat → Value) (P : Nat) : Prop := w.heap[b]? = some (.cells (rowV f P).toArray T (0, 0))
theorem RowV.cell {w : World} {b : Nat} {T : TypeId} {f : Nat → Value} {P : Nat} (h : RowV w b T f P) (i : Nat) (hi : i < P) : w.cell? ⟨b, i, none⟩ = some (f i) := by
  rw [cell_of_heap h, List.getElem?_toArray, rowV_get _ _ _ hi]
theorem RowV.free {w : World} {b : Nat} {T : TypeId} {f : Nat → Value} {P : Nat} (h : RowV w b T f P) (i : Nat) : w.frozen? ⟨b, i, none⟩ = false := free_of_heap h i
theorem RowV.set {w : World} {b : Nat} {T : TypeId} {f : Nat → Value} {P : Nat} (h : RowV w b T f P) (a : Nat) (v : Value) : RowV (w.setCell ⟨b, a, none⟩ v) b T (upd f a v) P := by
  have := heap_set h a v
  unfold RowV
  rw [this, ← rowV_set]
  simp
theorem RowV.congr {w : World} {b : Nat} {T : TypeId} {f g : Nat → Value} {P : Nat} (h : RowV w b T f P) (e : ∀ i, i < P → f i = g i) : RowV w b T g P := by
  have : rowV f P = rowV g P := List.map_congr_left fun i hi => e i (List.mem_range.1 hi)
  unfold RowV at h ⊢
  rw [← this]
  exact h
theorem ne_type {w : World} {a b : Nat} {x y : Array Value} {T U : TypeId} {f g : Nat × Nat} (h : w.heap[a]? = some (.cells x T f)) (k : w.heap[b]? = some (.cells y U g)) (hT : T ≠ U) : a ≠ b := fun e => by
  subst e
  rw [h] at k
  simp only [Option.some.injEq, Obj.cells.injEq] at k
  exact hT k.2.1
theorem owns_typed {w : World} {B s m : Nat} {e : TypeId} {v : Value} {xs : List Value} (h : w.ownsRow B e s v m xs) : ∀ g, v.ownBlock = some g → ∃ c, w.heap[g]? = some (.cells c e (0, 0)) := fun q hq => by
  obtain ⟨_, h2⟩ := h
  rcases h2 with ⟨rfl, _⟩ | ⟨g, cap, cur, rfl, _, hg, _⟩
  · cases hq
  · cases hq; exact ⟨_, hg⟩
theorem owns_ltW {w : World} {base size : Nat} {e : TypeId} {v : Value} {m : Nat} {xs : List Value} (h : w.ownsRow base e size v m xs) : ∀ q, v.ownBlock = some q → q < w.heap.size := fun q hq => by
  obtain ⟨c, hc⟩ := owns_typed h q hq
  exact lt_of_heap hc
theorem owns_keep {w w' : World} {B s m : Nat} {e : TypeId} {v : Value} {xs : List Value} (h : w.ownsRow B e s v m xs) (hk : ∀ g, v.ownBlock = some g → w'.heap[g]? = w.heap[g]?) : w'.ownsRow B e s v m xs := by
  obtain ⟨h1, h2⟩ := h
  refine ⟨h1, ?_⟩
  rcases h2 with h3 | ⟨g, cap, cur, rfl, h4, hg, r⟩
  · exact .inl h3
  · exact .inr ⟨g, cap, cur, rfl, h4, (hk g rfl).trans hg, r⟩
theorem owns_cellV {w : World} {B s m : Nat} {e : TypeId} {v : Value} {xs : List Value} (h : w.ownsRow B e s v m xs) (hm : 0 < m) : ∃ g cap, v = .slice (some ⟨g, 0, none⟩) m cap ∧ m ≤ cap ∧ g < w.heap.size ∧ ∀ i u, xs[i]? = some u → w.cell? ⟨g, i, none⟩ = some u := by
  obtain ⟨h1, h2⟩ := h
  rcases h2 with ⟨_, h3⟩ | ⟨g, cap, cur, rfl, h4, hg, h5, h6, h7, h8⟩
  · omega
  · refine ⟨g, cap, rfl, h5, lt_of_heap hg, fun i u hu => ?_⟩
    have hi := (List.getElem?_eq_some_iff.1 hu).1
    rw [cell_of_heap hg]
    have h3 : (cur.toList.take (m * s))[i]? = xs[i]? := by rw [h8]
    rw [List.getElem?_take_of_lt (by omega)] at h3
    rw [← Array.getElem?_toList, h3, hu]
/-- the Keeps under way -/
def ncl (N : List (Nat × Nat)) : List Value := N.flatMap fun p => [.int .i64 (p.1 : Int), .int .i64 (p.2 : Int)]
theorem ncl_snoc (N : List (Nat × Nat)) (a b : Nat) : ncl (N ++ [(a, b)]) = ncl N ++ [.int .i64 (a : Int), .int .i64 (b : Int)] := by simp [ncl]
theorem ncl_get : ∀ (N : List (Nat × Nat)) (i : Nat) (h : i < N.length), (ncl N)[i * 2]? = some (.int .i64 (N[i].1 : Int)) ∧ (ncl N)[i * 2 + 1]? = some (.int .i64 (N[i].2 : Int))
  | [], i, h => absurd h (Nat.not_lt_zero _)
  | p :: N, 0, h => ⟨rfl, rfl⟩
  | p :: N, i + 1, h => by
    have ih := ncl_get N i (by simpa using h)
    have e : ncl (p :: N) = .int .i64 (p.1 : Int) :: .int .i64 (p.2 : Int) :: ncl N := rfl
    rw [e, show (i + 1) * 2 = i * 2 + 1 + 1 from by omega]
    exact ih
theorem infoB : (Tryz.prog.info? 4).map (fun i => (i.zero, i.size, i.bytes)) = some (some (.bool false), 1, 1) := by kernel_rfl
theorem infoS : (Tryz.prog.info? 27).map (fun i => (i.zero, i.size, i.bytes)) = some (some (.slice none 0 0), 1, 24) := by kernel_rfl
theorem infoA : (Tryz.prog.info? 108).map (fun i => (i.zero, i.size, i.bytes)) = some (some (.agg #[.int .i64 0, .int .i64 0]), 2, 16) := by kernel_rfl
theorem made_one (u : Value) (n : Nat) : madeCells #[u] n = (rowV (fun _ => u) n).toArray := by
  apply Array.ext
  · simp [madeCells, rowV]
  · intro i h1 h2
    simp [madeCells, rowV, Nat.mod_one]
theorem mk_bool (n : Nat) (hn : n ≤ 1000000) (w : World) : (Instr.makeSlice 102 (.int .i64 n) (.int .i64 n)).run Tryz.prog w = .ok (.slice (some ⟨w.heap.size, 0, none⟩) n n) (w.alloc (.cells (rowV (fun _ => .bool false) n).toArray 4)) := by
  obtain ⟨i0, hi, hz0, hz1, hz2⟩ := info_parts infoB
  have h := run_make (P := Tryz.prog) w 102 4 i0 (.bool false) Tryz.underlying102 hi hz0 .i64 .i64 n n (by omega) (by omega) (by rw [hz2]; omega) (by omega)
  rw [h, hz1]
  simp only [Int.toNat_natCast, Nat.mul_one, Value.cells, made_one]
theorem mk_rows (n : Nat) (hn : n ≤ 1000000) (w : World) : (Instr.makeSlice 103 (.int .i64 n) (.int .i64 n)).run Tryz.prog w = .ok (.slice (some ⟨w.heap.size, 0, none⟩) n n) (w.alloc (.cells (rowV (fun _ => .slice none 0 0) n).toArray 27)) := by
  obtain ⟨i0, hi, hz0, hz1, hz2⟩ := info_parts infoS
  have h := run_make (P := Tryz.prog) w 103 27 i0 (.slice none 0 0) Tryz.underlying103 hi hz0 .i64 .i64 n n (by omega) (by omega) (by rw [hz2]; omega) (by omega)
  rw [h, hz1]
  simp only [Int.toNat_natCast, Nat.mul_one, Value.cells, made_one]
theorem step_mkB {ops : Array Oper} {o : Oper} {a : Act} {w : World} {K : Act → World → Prop} {Q : Exit → Act → World → Prop} {E : Prop} (n : Nat) (hn : n ≤ 1000000) (hgd : o.guard = none) (x : Operand) (ho : o.op = .makeSlice 102 x x) (hx : a.eval x = .int .i64 (n : Int))
    (h : ∀ g w', g = w.heap.size → RowV w' g 4 (fun _ => .bool false) n → Below w.heap.size w w' → g < w'.heap.size → K (a.put o.dst (.slice (some ⟨g, 0, none⟩) n n)) w') : if Region.wanted o (yielded ops a.tmps) = true then Oper.wp Tryz.prog o a w K Q else E := by
  refine step_value (P := Tryz.prog) hgd (v := .slice (some ⟨w.heap.size, 0, none⟩) n n) (w' := w.alloc (.cells (rowV (fun _ => .bool false) n).toArray 4)) ?_ (h w.heap.size _ rfl (heap_new _ _) ((Below.refl _ _).alloc (Nat.le_refl _) _) (by simp))
  have h1 := mk_bool n hn w
  unfold execOp
  simp only [ho, hx]
  simp [h1]
/-- the state of the peers in memory; hb, fb, gb: the blocks of held, faulty, got -/
structure SMem (P hb fb gb : Nat) (w0 w : World) (H F : Nat → Bool) (G : Nat → Value) (L : Nat → List Nat) (nv : Value) (N : List (Nat × Nat)) : Prop where
  hel : RowV w hb 4 (fun i => .bool (H i)) P
  fau : RowV w fb 4 (fun i => .bool (F i)) P
  got : RowV w gb 27 G P
  row : ∀ j, j < P → w.ownsRow w0.heap.size 3 1 (G j) (L j).length (i64z ((L j).map Int.ofNat))
  sep : ∀ j j', j < P → j' < P → j ≠ j' → ∀ q, (G j).ownBlock = some q → (G j').ownBlock ≠ some q
  net : w.ownsRow w0.heap.size 108 2 nv N.length (ncl N)
  ne : hb ≠ fb
  lh : w0.heap.size ≤ hb
  lf : w0.heap.size ≤ fb
  lg : w0.heap.size ≤ gb
  bel : Below w0.heap.size w0 w
section
variable {P hb fb gb : Nat} {w0 w w' : World} {H F : Nat → Bool} {G : Nat → Value} {L : Nat → List Nat} {nv : Value} {N : List (Nat × Nat)}
theorem SMem.below (h : SMem P hb fb gb w0 w H F G L nv N) (k : Below w.heap.size w w') : SMem P hb fb gb w0 w' H F G L nv N where
  hel := (k.block _ (lt_of_heap h.hel)).trans h.hel
  fau := (k.block _ (lt_of_heap h.fau)).trans h.fau
  got := (k.block _ (lt_of_heap h.got)).trans h.got
  row := fun j hj => owns_belowP (h.row j hj) k
  sep := h.sep
  net := owns_belowP h.net k
  ne := h.ne
  lh := h.lh
  lf := h.lf
  lg := h.lg
  bel := h.bel.trans (k.mono h.bel.size)
/-- a bool is written into a block of bools -/
theorem SMem.other (h : SMem P hb fb gb w0 w H F G L nv N) {b : Nat} (hT : ∃ c, w.heap[b]? = some (.cells c 4 (0, 0))) (a : Nat) (v : Value) :
    (∀ j, j < P → (w.setCell ⟨b, a, none⟩ v).ownsRow w0.heap.size 3 1 (G j) (L j).length (i64z ((L j).map Int.ofNat))) ∧ (w.setCell ⟨b, a, none⟩ v).ownsRow w0.heap.size 108 2 nv N.length (ncl N) ∧ RowV (w.setCell ⟨b, a, none⟩ v) gb 27 G P := by
  obtain ⟨c, hc⟩ := hT
  have hother : ∀ q, q ≠ b → (w.setCell ⟨b, a, none⟩ v).heap[q]? = w.heap[q]? := fun q hq => heap_setCell_other w ⟨b, a, none⟩ q v (by show q ≠ b; exact hq)
  refine ⟨fun j hj => owns_keep (h.row j hj) fun g hg => ?_, owns_keep h.net fun g hg => ?_, (hother gb (ne_type h.got hc (by decide))).trans h.got⟩
  · obtain ⟨c', hc'⟩ := owns_typed (h.row j hj) g hg
    exact hother g (ne_type hc' hc (by decide))
  · obtain ⟨c', hc'⟩ := owns_typed h.net g hg
    exact hother g (ne_type hc' hc (by decide))
theorem SMem.setH (h : SMem P hb fb gb w0 w H F G L nv N) (a : Nat) (v : Bool) : SMem P hb fb gb w0 (w.setCell ⟨hb, a, none⟩ (.bool v)) (upd H a v) F G L nv N := by
  obtain ⟨h1, h2, h3⟩ := h.other ⟨_, h.hel⟩ a (.bool v)
  refine ⟨(h.hel.set a (.bool v)).congr fun i _ => ?_, (heap_setCell_other w ⟨hb, a, none⟩ fb (.bool v) (by show fb ≠ hb; exact h.ne.symm)).trans h.fau, h3, h1, h.sep, h2, h.ne, h.lh, h.lf, h.lg, h.bel.setCell h.lh _⟩
  unfold upd
  split <;> rfl
theorem SMem.setF (h : SMem P hb fb gb w0 w H F G L nv N) (a : Nat) (v : Bool) : SMem P hb fb gb w0 (w.setCell ⟨fb, a, none⟩ (.bool v)) H (upd F a v) G L nv N := by
  obtain ⟨h1, h2, h3⟩ := h.other ⟨_, h.fau⟩ a (.bool v)
  refine ⟨(heap_setCell_other w ⟨fb, a, none⟩ hb (.bool v) (by show hb ≠ fb; exact h.ne)).trans h.hel, (h.fau.set a (.bool v)).congr fun i _ => ?_, h3, h1, h.sep, h2, h.ne, h.lh, h.lf, h.lg, h.bel.setCell h.lf _⟩
  unfold upd
  split <;> rfl
/-- a row is put into got -/
theorem SMem.setG (h : SMem P hb fb gb w0 w H F G L nv N) (a : Nat) (v : Value) (l : List Nat) (hv : w.ownsRow w0.heap.size 3 1 v l.length (i64z (l.map Int.ofNat))) (hs : ∀ j, j < P → j ≠ a → ∀ q, v.ownBlock = some q → (G j).ownBlock ≠ some q) :
    SMem P hb fb gb w0 (w.setCell ⟨gb, a, none⟩ v) H F (upd G a v) (upd L a l) nv N := by
  have hother : ∀ q, q ≠ gb → (w.setCell ⟨gb, a, none⟩ v).heap[q]? = w.heap[q]? := fun q hq => heap_setCell_other w ⟨gb, a, none⟩ q v (by show q ≠ gb; exact hq)
  refine ⟨(hother hb (ne_type h.hel h.got (by decide))).trans h.hel, (hother fb (ne_type h.fau h.got (by decide))).trans h.fau, h.got.set a v, fun j hj => ?_, fun j j' hj hj' hne q hq => ?_, owns_keep h.net fun g hg => ?_, h.ne, h.lh, h.lf, h.lg, h.bel.setCell h.lg _⟩
  · by_cases e : j = a
    · subst e
      rw [upd_same, upd_same]
      exact owns_keep hv fun g hg => by
        obtain ⟨c', hc'⟩ := owns_typed hv g hg
        exact hother g (ne_type hc' h.got (by decide))
    · rw [upd_other _ _ _ _ e, upd_other _ _ _ _ e]
      exact owns_keep (h.row j hj) fun g hg => by
        obtain ⟨c', hc'⟩ := owns_typed (h.row j hj) g hg
        exact hother g (ne_type hc' h.got (by decide))
  · by_cases e : j = a
    · subst e
      rw [upd_same] at hq
      rw [upd_other _ _ _ _ (fun h => hne h.symm)]
      exact hs j' hj' (fun h => hne h.symm) q hq
    · rw [upd_other _ _ _ _ e] at hq
      by_cases e' : j' = a
      · subst e'
        rw [upd_same]
        exact fun h2 => hs j hj e q h2 hq
      · rw [upd_other _ _ _ _ e']
        exact h.sep j j' hj hj' hne q hq
  · obtain ⟨c', hc'⟩ := owns_typed h.net g hg
    exact hother g (ne_type hc' h.got (by decide))
/-- a row of got has grown; it is put back -/
theorem SMem.come (h : SMem P hb fb gb w0 w H F G L nv N) {b : Nat} (hb' : b < P) {v : Value} {l : List Nat} (hg : w.grownBy w' (G b).ownBlock) (hv : w'.ownsRow w0.heap.size 3 1 v l.length (i64z (l.map Int.ofNat)))
    (hq : ∀ q, v.ownBlock = some q → (G b).ownBlock = some q ∨ q = w.heap.size) : SMem P hb fb gb w0 (w'.setCell ⟨gb, b, none⟩ v) H F (upd G b v) (upd L b l) nv N := by
  have hkeep : ∀ (g : Nat) (c : Array Value) (T : TypeId), w.heap[g]? = some (.cells c T (0, 0)) → T ≠ 3 → w'.heap[g]? = w.heap[g]? := fun g c T hc hT => hg.block g (lt_of_heap hc) (fun e => by
    obtain ⟨c', hc'⟩ := owns_typed (h.row b hb') g e.symm
    exact ne_type hc hc' hT rfl)
  have hrow : ∀ j, j < P → j ≠ b → ∀ g, (G j).ownBlock = some g → w'.heap[g]? = w.heap[g]? := fun j hj e g hgj => hg.block g (owns_ltW (h.row j hj) g hgj) (fun e2 => h.sep j b hj hb' e g hgj e2.symm)
  have hg' : RowV w' gb 27 G P := (hkeep gb _ _ h.got (by decide)).trans h.got
  have hother : ∀ q, q ≠ gb → (w'.setCell ⟨gb, b, none⟩ v).heap[q]? = w'.heap[q]? := fun q hq => heap_setCell_other w' ⟨gb, b, none⟩ q v (by show q ≠ gb; exact hq)
  refine ⟨(hother hb (ne_type h.hel h.got (by decide))).trans ((hkeep hb _ _ h.hel (by decide)).trans h.hel), (hother fb (ne_type h.fau h.got (by decide))).trans ((hkeep fb _ _ h.fau (by decide)).trans h.fau), hg'.set b v, fun j hj => ?_, fun j j' hj hj' hne q hq2 => ?_, owns_keep h.net fun g hgn => ?_, h.ne, h.lh, h.lf, h.lg, (h.bel.grown hg h.bel.size (owns_blockZ (h.row b hb'))).setCell h.lg _⟩
  · by_cases e : j = b
    · subst e
      rw [upd_same, upd_same]
      exact owns_keep hv fun g hgv => by
        obtain ⟨c', hc'⟩ := owns_typed hv g hgv
        exact hother g (ne_type hc' hg' (by decide))
    · rw [upd_other _ _ _ _ e, upd_other _ _ _ _ e]
      exact owns_keep (h.row j hj) fun g hgj => by
        obtain ⟨c', hc'⟩ := owns_typed (h.row j hj) g hgj
        exact (hother g (ne_type hc' h.got (by decide))).trans (hrow j hj e g hgj)
  · by_cases e : j = b
    · subst e
      rw [upd_same] at hq2
      rw [upd_other _ _ _ _ (fun h => hne h.symm)]
      rcases hq q hq2 with h3 | h3
      · exact h.sep j j' hj hj' hne q h3
      · intro h4
        have := owns_ltW (h.row j' hj') q h4
        omega
    · rw [upd_other _ _ _ _ e] at hq2
      by_cases e' : j' = b
      · subst e'
        rw [upd_same]
        intro h4
        rcases hq q h4 with h3 | h3
        · exact h.sep j j' hj hj' hne q hq2 h3
        · have := owns_ltW (h.row j hj) q hq2
          omega
      · rw [upd_other _ _ _ _ e']
        exact h.sep j j' hj hj' hne q hq2
  · obtain ⟨c', hc'⟩ := owns_typed h.net g hgn
    exact (hother g (ne_type hc' h.got (by decide))).trans (hkeep g _ _ hc' (by decide))
/-- a Keep has been sent -/
theorem SMem.send (h : SMem P hb fb gb w0 w H F G L nv N) {v : Value} {N' : List (Nat × Nat)} (hg : w.grownBy w' nv.ownBlock) (hv : w'.ownsRow w0.heap.size 108 2 v N'.length (ncl N')) : SMem P hb fb gb w0 w' H F G L v N' := by
  have hkeep : ∀ (g : Nat) (c : Array Value) (T : TypeId), w.heap[g]? = some (.cells c T (0, 0)) → T ≠ 108 → w'.heap[g]? = w.heap[g]? := fun g c T hc hT => hg.block g (lt_of_heap hc) (fun e => by
    obtain ⟨c', hc'⟩ := owns_typed h.net g e.symm
    exact ne_type hc hc' hT rfl)
  exact ⟨(hkeep hb _ _ h.hel (by decide)).trans h.hel, (hkeep fb _ _ h.fau (by decide)).trans h.fau, (hkeep gb _ _ h.got (by decide)).trans h.got, fun j hj => owns_keep (h.row j hj) fun g hgj => by
    obtain ⟨c', hc'⟩ := owns_typed (h.row j hj) g hgj
    exact hkeep g _ _ hc' (by decide), h.sep, hv, h.ne, h.lh, h.lf, h.lg, h.bel.grown hg h.bel.size (owns_blockZ h.net)⟩
end
end Go.Proofs.YtjgiiciniplbnaaGreatDoor

namespace Go.Proofs.YtjgiiciniplbnaaGreatDoor
open Go Go.RowKit Go.Lib Go.Sort
set_option linter.unusedVariables false

theorem tmod_bounds (a : Int) (n : Nat) (hn : 0 < n) : -(n : Int) < a.tmod (n : Int) ∧ a.tmod (n : Int) < (n : Int) := by
  have h1 := Int.tmod_lt_of_pos a (show (0 : Int) < (n : Int) by omega)
  have h2 := Int.neg_tmod a (n : Int)
  have h3 := Int.tmod_lt_of_pos (-a) (show (0 : Int) < (n : Int) by omega)
  omega
set_option maxRecDepth 100000 in
set_option maxHeartbeats 2000000 in
theorem idx_any (a : Int) (n : Nat) (hn : 0 < n) (hn2 : n ≤ 1000000) (w : World) :
    Calls Tryz.prog 57 #[.int .i64 a, .int .i64 (n : Int)] w fun e w' => (∃ r : Nat, e = .returned (.int .i64 (r : Int)) ∧ r < n) ∧ w = w' := by
  obtain ⟨h1, h2⟩ := tmod_bounds a n hn
  by_cases h0 : a.tmod (n : Int) < 0
  · obtain ⟨r, hr⟩ : ∃ r : Nat, (r : Int) = a.tmod (n : Int) + n := ⟨(a.tmod (n : Int) + n).toNat, by omega⟩
    have HW := hid (show wrap64 (a.tmod (n : Int) + (n : Int)) = (r : Int) from by rw [IntWalk.wrap64_in _ (by omega)]; omega)
    have HR := hid (show r < n from by omega)
    have hz : ¬ (n : Int) = 0 := by omega
    clear hr h1 h2
    go_enter Tryz.func57, Tryz.ntmps57
    go_wp2
    go_ret
    exact ⟨⟨r, by rw [← HW.out]; rfl, HR.out⟩, rfl⟩
  · obtain ⟨r, hr⟩ : ∃ r : Nat, (r : Int) = a.tmod (n : Int) := ⟨(a.tmod (n : Int)).toNat, by omega⟩
    have HRE := hid hr
    have HR := hid (show r < n from by omega)
    have hz : ¬ (n : Int) = 0 := by omega
    clear hr h1 h2
    go_enter Tryz.func57, Tryz.ntmps57
    go_wp2
    go_ret
    exact ⟨⟨r, by rw [HRE.out]; rfl, HR.out⟩, rfl⟩
end Go.Proofs.YtjgiiciniplbnaaGreatDoor

namespace Go.Proofs.YtjgiiciniplbnaaGreatDoor
open Go Go.RowKit Go.Lib Go.Sort
set_option linter.unusedVariables false

theorem owns_shape {w : World} {B s m : Nat} {e : TypeId} {v : Value} {xs : List Value} (h : w.ownsRow B e s v m xs) : ∃ a c, v = .slice a m c := by
  obtain ⟨_, h2⟩ := h
  rcases h2 with ⟨rfl, rfl⟩ | ⟨g, cap, cur, rfl, _⟩
  · exact ⟨none, 0, rfl⟩
  · exact ⟨_, cap, rfl⟩
theorem wpList_netK {w : World} {ops : Array Oper} {rest : List Oper} {o : Oper} {a : Act} {Q : Exit → Act → World → Prop} (hgd : o.guard = none) (s x : Operand)
    (ho : o.op = .call { callee := .builtin .append, args := #[s, x], argTypes := #[104, 104] }) (g0 : Nat) (nv : Value) (NN : List (Nat × Nat)) (hs : a.eval s = nv) (hown : w.ownsRow g0 108 2 nv NN.length (ncl NN)) (hlen : NN.length ≤ 1000)
    (b0 : Nat) (p q : Nat) (hx : a.eval x = .slice (some ⟨b0, 0, none⟩) 1 1) (hr : w.heap[b0]? = some (.cells #[.int .i64 (p : Int), .int .i64 (q : Int)] 108 (0, 0))) (hbase : g0 ≤ w.heap.size)
    (h : ∀ v' w', w'.ownsRow g0 108 2 v' (NN ++ [(p, q)]).length (ncl (NN ++ [(p, q)])) → w.grownBy w' nv.ownBlock → wpList Tryz.prog ops Q rest (a.put o.dst v') w') :
    wpList Tryz.prog ops Q (o :: rest) a w := by
  obtain ⟨i0, hi, hz0, hz1, hz2⟩ := info_parts infoA
  refine Go.wpList_append_own _ hgd s x _ ho g0 108 i0 (.agg #[.int .i64 0, .int .i64 0]) 2 16 Tryz.underlying104 hi hz0 hz1 hz2 rfl (by decide) _ NN.length (ncl NN) hs hown ⟨b0, 0, none⟩ 1 1 [.int .i64 (p : Int), .int .i64 (q : Int)] hx rfl (fun j u hj => by
    have e : (⟨b0, 0, none⟩ : Addr).add j = ⟨b0, j, none⟩ := by unfold Addr.add; split <;> simp_all
    rw [e, cell_of_heap hr]
    show ([.int .i64 (p : Int), .int .i64 (q : Int)] : List Value).toArray[j]? = some u
    rw [List.getElem?_toArray]
    exact hj) (fun u hu => by simp at hu; rcases hu with rfl | rfl <;> rfl) (by unfold maxLen; omega) (by omega) hbase ?_
  intro v' w' hown' hg hn
  refine h v' w' ?_ hg
  rw [ncl_snoc, List.length_append]
  exact hown'
theorem step_build1I {ops : Array Oper} {o : Oper} {a : Act} {w : World} {K : Act → World → Prop} {Q : Exit → Act → World → Prop} {E : Prop} (p : Int) (hgd : o.guard = none) (x : Operand) (ho : o.op = .buildSlice 27 1 #[(0, x)]) (hx : a.eval x = .int .i64 p)
    (h : ∀ g w', g = w.heap.size → w'.heap[g]? = some (.cells #[.int .i64 p] 3 (0, 0)) → Below w.heap.size w w' → g < w'.heap.size → K (a.put o.dst (.slice (some ⟨g, 0, none⟩) 1 1)) w') : if Region.wanted o (yielded ops a.tmps) = true then Oper.wp Tryz.prog o a w K Q else E := by
  refine step_value (P := Tryz.prog) hgd (v := .slice (some ⟨w.heap.size, 0, none⟩) 1 1) (w' := w.alloc (.cells #[.int .i64 p] 3)) ?_ (h w.heap.size _ rfl (heap_new _ _) ((Below.refl _ _).alloc (Nat.le_refl _) _) (by simp))
  have h1 : (Instr.buildSlice 27 1 #[(0, .int .i64 p)]).run Tryz.prog w = .ok (.slice (some ⟨w.heap.size, 0, none⟩) 1 1) (w.alloc (.cells #[.int .i64 p] 3)) := by kernel_rfl
  have h2 : (#[(0, x)] : Array (Nat × Operand)).map (fun p => (p.1, a.eval p.2)) = #[(0, .int .i64 p)] := by simp [hx]
  unfold execOp
  simp only [ho]
  simp [h1, hx]
theorem step_comeK {ops : Array Oper} {w : World} {o : Oper} {a : Act} {K : Act → World → Prop} {Q : Exit → Act → World → Prop} {E : Prop} (hgd : o.guard = none) (s x : Operand)
    (ho : o.op = .call { callee := .builtin .append, args := #[s, x], argTypes := #[27, 27] }) (g0 : Nat) (v0 : Value) (l : List Nat) (hs : a.eval s = v0) (hown : w.ownsRow g0 3 1 v0 l.length (i64z (l.map Int.ofNat))) (hlen : l.length ≤ 1000)
    (b0 : Nat) (p : Nat) (hx : a.eval x = .slice (some ⟨b0, 0, none⟩) 1 1) (hr : w.heap[b0]? = some (.cells #[.int .i64 (p : Int)] 3 (0, 0))) (hbase : g0 ≤ w.heap.size)
    (h : ∀ v' w', w'.ownsRow g0 3 1 v' (l ++ [p]).length (i64z ((l ++ [p]).map Int.ofNat)) → w.grownBy w' v0.ownBlock → (∀ q, v'.ownBlock = some q → v0.ownBlock = some q ∨ q = w.heap.size) → K (a.put o.dst v') w') :
    if Region.wanted o (yielded ops a.tmps) = true then Oper.wp Tryz.prog o a w K Q else E := by
  obtain ⟨i0, hi, hz0, hz1, hz2⟩ := info_parts infoZ
  refine Go.step_append_lies _ hgd s x _ ho g0 3 i0 (.int .i64 0) 1 8 Tryz.underlying27 hi hz0 hz1 hz2 rfl (by decide) v0 l.length (i64z (l.map Int.ofNat)) hs hown ⟨b0, 0, none⟩ 1 1 [.int .i64 (p : Int)] hx rfl (fun j u hj => by
    have e : (⟨b0, 0, none⟩ : Addr).add j = ⟨b0, j, none⟩ := by unfold Addr.add; split <;> simp_all
    rw [e, cell_of_heap hr]
    show ([.int .i64 (p : Int)] : List Value).toArray[j]? = some u
    rw [List.getElem?_toArray]
    exact hj) (fun u hu => by simp at hu; rw [hu]; rfl) (by omega) (by unfold maxLen; omega) (by omega) hbase _ rfl ?_
  intro g cap w' hown' hg hq hlt
  refine h _ w' ?_ hg (fun q hq2 => ?_)
  · rw [show i64z ((l ++ [p]).map Int.ofNat) = i64z (l.map Int.ofNat) ++ [.int .i64 (p : Int)] from by simp [i64z], List.length_append]
    exact hown'
  · have e : g = q := by simpa [Value.ownBlock] using hq2
    rw [← e]
    exact hq
theorem SMem.keptT {P hb fb gb : Nat} {w0 w w' : World} {H F : Nat → Bool} {G : Nat → Value} {L : Nat → List Nat} {nv : Value} {N : List (Nat × Nat)} (h : SMem P hb fb gb w0 w H F G L nv N) {b : Nat} (hb' : b < P) (hg : w.grownBy w' (G b).ownBlock) (g : Nat) (c : Array Value) (T : TypeId) (hc : w.heap[g]? = some (.cells c T (0, 0))) (hT : T ≠ 3) : w'.heap[g]? = w.heap[g]? :=
  hg.block g (lt_of_heap hc) (fun e => by
    obtain ⟨c', hc'⟩ := owns_typed (h.row b hb') g e.symm
    exact ne_type hc hc' hT rfl)
theorem wfS (l : List Nat) (h : ∀ x ∈ l, x < 1000000) : ∀ n ∈ l.map Int.ofNat, (Lit.int .i64 n).wf = true := fun n hn => by
  obtain ⟨y, hy, rfl⟩ := List.mem_map.1 hn
  have := h y hy
  simp [Lit.wf]
  have e1 : IntKind.i64.min = -9223372036854775808 := rfl
  have e2 : IntKind.i64.max = 9223372036854775807 := rfl
  omega
theorem upd_len {L : Nat → List Nat} {m : Nat} (h : ∀ j, (L j).length ≤ m) (a : Nat) (l : List Nat) (hl : l.length ≤ m + 1) : ∀ j, (upd L a l j).length ≤ m + 1 := fun j => by
  unfold upd
  split
  · exact hl
  · exact Nat.le_succ_of_le (h j)
theorem arr_one (p q : Int) : (#[.int .i64 p, .int .i64 q] : Array Value).all (·.oneCell') = true := all_oneCell_toArray (fun u hu => by simp at hu; rcases hu with rfl | rfl <;> rfl)
end Go.Proofs.YtjgiiciniplbnaaGreatDoor

namespace Go.Proofs.YtjgiiciniplbnaaGreatDoor
open Go.ChangeShapes Go.WideShapes Go.ChangeAt Go.RowKit
set_option linter.unusedVariables false

/-- a slice of events that came in -/
def Ev3 (W : World) (a : Option Addr) (n : Nat) (e0 e1 e2 : Nat → Int) : Prop :=
  (0 < n → ∃ b o, a = some ⟨b, o, none⟩ ∧ b < W.heap.size ∧ ∀ i, i < n → W.cell? ⟨b, o + i * 3, none⟩ = some (.int .i64 (e0 i)) ∧ W.cell? ⟨b, o + i * 3 + 1, none⟩ = some (.int .i64 (e1 i)) ∧ W.cell? ⟨b, o + i * 3 + 2, none⟩ = some (.int .i64 (e2 i))) ∧ ∀ i, (Lit.int .i64 (e1 i)).wf = true ∧ (Lit.int .i64 (e2 i)).wf = true
theorem Ev3.belowE {W W' : World} {a : Option Addr} {n : Nat} {e0 e1 e2 : Nat → Int} (h : Ev3 W a n e0 e1 e2) (k : Below W.heap.size W W') : Ev3 W' a n e0 e1 e2 := by
  refine ⟨fun hn => ?_, h.2⟩
  obtain ⟨b, o, ha, hb, hc⟩ := h.1 hn
  exact ⟨b, o, ha, Nat.lt_of_lt_of_le hb k.size, fun i hi => ⟨(k.cell hb).trans (hc i hi).1, (k.cell hb).trans (hc i hi).2.1, (k.cell hb).trans (hc i hi).2.2⟩⟩
section
variable {H : Type} {enc : TypeId × Value → H} {W : World}
set_option maxRecDepth 100000 in
theorem open_evs {fuel : Nat} {cs : List Value} {x : DataW H × List MemPlace} (h : DataW.trod enc Tryz.prog W 0 (fun _ => true) true fuel 99 cs = some x) : ∃ a n c e0 e1 e2, cs = [.slice a n c] ∧ Ev3 W a n e0 e1 e2 := by
  rcases Deep.open_slice Tryz.underlying99 h with ⟨hcs, _⟩ | ⟨a, len, cap, m, n, D, Pl, hcs, _, hl, _, hm, _, hx⟩
  · exact ⟨none, 0, 0, fun _ => 0, fun _ => 0, fun _ => 0, hcs, fun h => absurd h (Nat.lt_irrefl 0), fun _ => ⟨rfl, rfl⟩⟩
  · have ce : Tryz.prog.cellsOf 107 = 3 := by kernel_rfl
    have each : ∀ i, i < len → ∃ q : Int × Int × Int, W.cell? (a.add (i * 3)) = some (.int .i64 q.1) ∧ W.cell? (a.add (i * 3 + 1)) = some (.int .i64 q.2.1) ∧ W.cell? (a.add (i * 3 + 2)) = some (.int .i64 q.2.2) ∧ (Lit.int .i64 q.2.1).wf = true ∧ (Lit.int .i64 q.2.2).wf = true := fun i hi => by
      obtain ⟨cs', h1, h2⟩ := hx i (by rw [hm]; split <;> omega)
      rw [ce] at h1
      obtain ⟨_, hlen, hcell⟩ := World.cells?_some h1
      obtain ⟨xs, k, hk, hxy, _, hxl, hf⟩ := DataW.trod_struct Tryz.underlying107 h2
      match xs, hxl, cs', hlen with
      | [y0, y1, y2], _, [v0, v1, v2], _ =>
        have g0 := hf 0 _ rfl
        have g1 := hf 1 _ rfl
        have g2 := hf 2 _ rfl
        obtain ⟨z0, f0, _, w0⟩ := DataW.trod_int Tryz.underlying3 g0
        obtain ⟨z1, f1, _, w1⟩ := DataW.trod_int Tryz.underlying3 g1
        obtain ⟨z2, f2, _, w2⟩ := DataW.trod_int Tryz.underlying3 g2
        have r0 : ([v0, v1, v2] : List Value)[0]? = some (.int .i64 z0) := chunkL f0
        have r1 : ([v0, v1, v2] : List Value)[1]? = some (.int .i64 z1) := chunkL f1
        have r2 : ([v0, v1, v2] : List Value)[2]? = some (.int .i64 z2) := chunkL f2
        simp only [List.getElem?_cons_zero, List.getElem?_cons_succ, Option.some.injEq] at r0 r1 r2
        subst r0 r1 r2
        have e0 := hcell 0 (by omega)
        have e1 := hcell 1 (by omega)
        have e2 := hcell 2 (by omega)
        rw [Deep.add_add] at e0 e1 e2
        exact ⟨(z0, z1, z2), by simpa using e0, by simpa using e1, by simpa using e2, w1, w2⟩
    obtain ⟨q, hq⟩ := Deep.choose_lt each
    refine ⟨some a, len, cap, fun i => if i < len then (q i).1 else 0, fun i => if i < len then (q i).2.1 else 0, fun i => if i < len then (q i).2.2 else 0, hcs, fun h0 => ?_, fun i => ?_⟩
    · obtain ⟨b, o, spot⟩ := a
      have hc := (hq 0 h0).1
      have hspot : spot = none := by simpa [Addr.add] using World.cell?_spot hc
      subst hspot
      have hb := World.block_lt_of_cell? _ _ hc
      rw [add_none] at hb
      refine ⟨b, o, rfl, hb, fun i hi => ?_⟩
      obtain ⟨h1, h2, h3, _⟩ := hq i hi
      rw [add_none] at h1 h2 h3
      dsimp only
      rw [if_pos hi, if_pos hi, if_pos hi]
      exact ⟨h1, by rw [Nat.add_assoc]; exact h2, by rw [Nat.add_assoc]; exact h3⟩
    · dsimp only
      by_cases hi : i < len
      · rw [if_pos hi, if_pos hi]
        exact (hq i hi).2.2.2
      · rw [if_neg hi, if_neg hi]
        exact ⟨rfl, rfl⟩
set_option maxRecDepth 100000 in
theorem open_swarm {base : Nat} {v : Value} {d : DataW H} {p : List MemPlace} (hval : Value.okWide Tryz.prog W .any base 101 v) (h : DataW.Trod enc Tryz.prog W 0 (fun _ => true) true 101 v d p) :
    ∃ (od : List Nat) (x0 x1 : Int) (a2 : Option Addr) (n2 c2 : Nat) (l2 : List Int) (a3 : Option Addr) (n3 c3 : Nat) (e0 e1 e2 : Nat → Int), v = .agg (u8s od ++ ([.int .i64 x0, .int .i64 x1, .slice a2 n2 c2, .slice a3 n3 c3] : List Value)).toArray ∧ od.length = 32 ∧ (∀ y ∈ od, y < 256) ∧ (Lit.int .i64 x0).wf = true ∧ (Lit.int .i64 x1).wf = true ∧ In W a2 n2 c2 l2 ∧ Ev3 W a3 n3 e0 e1 e2 := by
  obtain ⟨cs, rfl, hsz⟩ := okWide_struct Tryz.underlying101 hval
  rw [show Tryz.prog.cellsOf 101 = 36 from by kernel_rfl] at hsz
  obtain ⟨l⟩ := cs
  have hl : l.length = 36 := by simpa using hsz
  obtain ⟨fuel, hf⟩ := h
  obtain ⟨xs, n, rfl, _, _, hxl, hg⟩ := DataW.trod_struct Tryz.underlying101 hf
  match xs, hxl with
  | [y0, y1, y2, y3, y4], _ =>
  have g0 := hg 0 _ rfl
  have g1 := hg 1 _ rfl
  have g2 := hg 2 _ rfl
  have g3 := hg 3 _ rfl
  have g4 := hg 4 _ rfl
  obtain ⟨od, f0, ho1, ho2⟩ := open_arr32D g0 (by simp [show Tryz.prog.cellsOf 23 = 32 from by kernel_rfl, Value.cells, hl])
  obtain ⟨x0, f1, _, w0⟩ := DataW.trod_int Tryz.underlying3 g1
  obtain ⟨x1, f2, _, w1⟩ := DataW.trod_int Tryz.underlying3 g2
  obtain ⟨a2, n2, c2, l2, f3, w2⟩ := open_is g3
  obtain ⟨a3, n3, c3, e0, e1, e2, f4, w3⟩ := open_evs g4
  have r0 : ∀ i, i < 32 → l[i]? = (u8s od)[i]? := fun i hi => chunkD f0 i hi
  have r1 : l[32]? = some (.int .i64 x0) := chunkL f1
  have r2 : l[33]? = some (.int .i64 x1) := chunkL f2
  have r3 : l[34]? = some (.slice a2 n2 c2) := chunkL f3
  have r4 : l[35]? = some (.slice a3 n3 c3) := chunkL f4
  refine ⟨od, x0, x1, a2, n2, c2, l2, a3, n3, c3, e0, e1, e2, ?_, ho1, ho2, w0, w1, w2, w3⟩
  congr 2
  apply List.ext_getElem?
  intro i
  by_cases hi : i < 36
  · by_cases h32 : i < 32
    · rw [r0 i h32, List.getElem?_append_left (by simp [u8s, ho1]; omega)]
    · rw [List.getElem?_append_right (by simp [u8s, ho1]; omega)]
      rcases (show i = 32 ∨ i = 33 ∨ i = 34 ∨ i = 35 from by omega) with rfl | rfl | rfl | rfl
      · rw [r1]; simp [u8s, ho1]
      · rw [r2]; simp [u8s, ho1]
      · rw [r3]; simp [u8s, ho1]
      · rw [r4]; simp [u8s, ho1]
  · rw [List.getElem?_eq_none (by omega), List.getElem?_eq_none (by simp [u8s, ho1]; omega)]
end
end Go.Proofs.YtjgiiciniplbnaaGreatDoor
