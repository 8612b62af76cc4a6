/-
  copy between two rows of pieces (two cells each), and the pieces' cells behind it.
-/
import Derived.Test.YtafkjfpmjhfofaaDoorSplit
namespace Go.Proofs.YtafkjfpmjhfofaaDoor
open Go Go.RowKit

theorem wpList_copy_pairs {P : Program} {w : World} {ops : Array Oper} {rest : List Oper} {o : Oper} {a : Act} {Q : Exit → Act → World → Prop} (hgd : o.guard = none) (d s : Operand) (dT sT : TypeId)
    (ho : o.op = .call { callee := .builtin .copy, args := #[d, s], argTypes := #[dT, sT] }) (elem : TypeId) (hu : P.underlying dT = some (.slice elem)) (hsz : (P.info? elem).map (·.size) = some 2)
    (g dLen dCap : Nat) (ad : Addr) (sLen sCap : Nat) (hd : a.eval d = .slice (some ⟨g, 0, none⟩) dLen dCap) (hs : a.eval s = .slice (some ad) sLen sCap)
    (cur : List Value) (t : TypeId) (hg : w.heap[g]? = some (.cells cur.toArray t (0, 0))) (cs : List Value) (n : Nat) (hmin : Nat.min sLen dLen = n) (hn : cs.length = n * 2)
    (hsrc : ∀ j v, cs[j]? = some v → w.cell? (ad.add j) = some v) (hfit : cs.length ≤ cur.length) (h1 : ∀ v ∈ cs, v.oneCell' = true)
    (h : ∀ w', Hid (w'.heap[g]? = some (.cells (cs ++ cur.drop cs.length).toArray t (0, 0))) → Kept g w w' → wpList P ops Q rest (a.put o.dst (goInt n)) w') :
    wpList P ops Q (o :: rest) a w := by
  have hl := run_loadCells_list (P := P) w ad cs hsrc
  have hst := run_storeCells_at P g 0 t cs 0 cur.toArray w hg (by simpa using hfit) h1
  have hi : ∃ i, P.info? elem = some i ∧ i.size = 2 := by
    cases hq : P.info? elem with
    | none => simp [hq] at hsz
    | some i => exact ⟨i, rfl, by simpa [hq] using hsz⟩
  obtain ⟨i, hq, hi⟩ := hi
  rw [hn] at hl
  have hrun : (Builtin.copy_ #[dT, sT] o.type #[.slice (some ⟨g, 0, none⟩) dLen dCap, .slice (some ad) sLen sCap]).run P w = .ok (goInt n) (w.setRow g (cs ++ cur.drop cs.length).toArray) := by
    simp only [Nat.add_zero, Nat.zero_add] at hst
    simp [Builtin.copy_, run_underlying hu, Builtin.lenOf, Builtin.firstCells, sizeOf, typeInfo, hq, hi, hmin, hl, hst]
  refine wpList_plain hgd fun K hK => ?_
  unfold Oper.wp
  simp [execOp, ho, resolve, invoke, builtin, hd, hs, hrun, Result.andThen]
  refine hK _ _ (h _ (setRow_heap w g _ _ t _ hg) ⟨rfl, rfl, rfl, by simp [World.setRow], fun k _ hk => setRow_other w g k _ hk⟩)

theorem pcells_append (a b : List (Int × Sl)) : pcells (a ++ b) = pcells a ++ pcells b := by simp [pcells]
theorem mkps_split (bf : Nat → Nat) (L k t : Nat) (h : k ≤ t) : mkps bf L t k = mkps bf L k k ++ List.replicate (t - k) (0, none, 0, 0) := by
  apply List.ext_getElem?
  intro j
  unfold mkps
  by_cases hj : j < k
  · rw [List.getElem?_append_left (by simpa using hj)]
    simp [hj, show j < t by omega]
  · rw [List.getElem?_append_right (by simp; omega)]
    by_cases ht : j < t
    · simp [ht, hj, show j - k < t - k by omega]
    · rw [List.getElem?_eq_none (by simp; omega), List.getElem?_eq_none (by simp; omega)]
theorem pcells_copied (bf : Nat → Nat) (L k t : Nat) (h : k ≤ t) : pcells (mkps bf L k k) ++ (pcells (List.replicate t (0, none, 0, 0))).drop (pcells (mkps bf L k k)).length = pcells (mkps bf L t k) := by
  rw [mkps_split bf L k t h, pcells_append]
  congr 1
  rw [pcells_length, mkps_length]
  have e : List.replicate t ((0 : Int), ((none : Option Addr), 0, 0)) = List.replicate k ((0 : Int), ((none : Option Addr), 0, 0)) ++ List.replicate (t - k) ((0 : Int), ((none : Option Addr), 0, 0)) := by
    rw [List.replicate_append_replicate]; congr 1; omega
  rw [e, pcells_append]
  have hl : (pcells (List.replicate k ((0 : Int), ((none : Option Addr), 0, 0)))).length = 2 * k := by rw [pcells_length]; simp
  rw [← hl, List.drop_left]
theorem pcells_one : ∀ (ps : List (Int × Sl)) (v : Value), v ∈ pcells ps → v.oneCell' = true := by
  intro ps v hv
  unfold pcells at hv
  obtain ⟨p, _, h⟩ := List.mem_flatMap.1 hv
  simp only [List.mem_cons, List.not_mem_nil, or_false] at h
  rcases h with rfl | rfl <;> rfl
/-- the bytes of all pieces -/
def encP (d : List Nat) (k L i : Nat) : List Nat := if i < k then spl d L i else mixL ((List.range k).map (spl d L)) (wts (List.range k) (scales (List.range k)) i) L k
theorem range_map_getD (f : Nat → List Nat) (k i : Nat) (h : i < k) : ((List.range k).map f).getD i [] = f i := by
  rw [List.getD_eq_getElem?_getD, List.getElem?_map, List.getElem?_range h]; rfl
end Go.Proofs.YtafkjfpmjhfofaaDoor
