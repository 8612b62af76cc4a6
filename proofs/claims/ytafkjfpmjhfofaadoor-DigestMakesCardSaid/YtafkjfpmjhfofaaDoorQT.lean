/-
  A region that draws its order, whose operations read or call quietly until one forced tail (a store) ends it: one walk in the order of the text serves every order.
-/
import Derived.Deep.QuietTactic
import Derived.BigQuiet
import Derived.StillTailTactics
namespace Go.Proofs.YtafkjfpmjhfofaaDoor
open Go

section
variable {P : Program} {ops : Array Oper} {C : World → Prop}

/-- whatever order is taken, f operations from below n come first, each quiet, and L holds behind them -/
def Quiets (P : Program) (ops : Array Oper) (C : World → Prop) (n : Nat) (L : Array Bool → Act → Prop) : Nat → Array Bool → Act → Prop
  | 0 => L
  | f + 1 => fun done a => Region.ready .any ops done ≠ [] ∧ ∀ i, i ∈ Region.ready .any ops done → i < n ∧ qOp P ops C i (Quiets P ops C n L f (done.setIfInBounds i true)) a

theorem Quiets.runs {n g : Nat} {L : Array Bool → Act → Prop} {Q : Exit → Act → World → Prop} (hL : ∀ done a w, C w → L done a → wpAny P .any ops Q g done a w) (f : Nat) :
    ∀ (done : Array Bool) (a : Act) (w : World), C w → Quiets P ops C n L f done a → wpAny P .any ops Q (f + g) done a w := by
  induction f with
  | zero => intro done a w hw h; rw [Nat.zero_add]; exact hL done a w hw h
  | succ f ih =>
    intro done a w hw h
    rw [Nat.add_right_comm]
    refine ⟨fun e => absurd e h.1, fun i hi => ?_⟩
    exact wpOp_of_qOp hw (fun a' w' hw' h' => ih _ a' w' hw' h') (h.2 i hi).2

/-- an operation that is ready, quiet and apart from all others may be taken first -/
theorem Quiets.first {n i : Nat} {o : Oper} {v : Value} {L : Array Bool → Act → Prop} (hi : ops[i]? = some o) (hsel : ∀ (j : Nat) (o' : Oper) cs b, ops[j]? = some o' → o'.op ≠ .select cs b)
    (hs : Region.sinkB .any ops n = true) (hc : Region.chainB .any ops n = true) (hn : n < ops.size) (hin : i < n) (hL : ∀ done a, L done a → ∀ j, j ∈ Region.ready .any ops done → n ≤ j) (f : Nat) :
    ∀ (done : Array Bool) (a : Act), HeadInv .any ops n done →
      (∀ j o', ops[j]? = some o' → j ≠ i → done.getD j true = false → (∀ e, e ∈ o'.after → Region.binds .any e = true → e.on ≠ i) → o.apart ops o' = true) →
      i ∈ Region.ready .any ops done → YieldsIn P ops C o v a → Quiets P ops C n L f (done.setIfInBounds i true) (a.put o.dst v) → Quiets P ops C n L (f + 1) done a := by
  induction f with
  | zero =>
    intro done a inv _ hr hy h
    refine ⟨List.ne_nil_of_mem hr, fun j hj => ?_⟩
    have hjn : j < n := Nat.lt_of_not_le fun hnj => tail_waits hs hc hn inv _ i rfl hin (mem_ready.1 hr).1 j hnj hj
    by_cases e : j = i
    · rw [e]; exact ⟨hin, hy.qOp hi h⟩
    · exact absurd (hL _ _ h j (ready_mono hj e)) (by omega)
  | succ f ih =>
    intro done a inv hap hr hy h
    refine ⟨List.ne_nil_of_mem hr, fun j hj => ?_⟩
    have hjn : j < n := Nat.lt_of_not_le fun hnj => tail_waits hs hc hn inv _ i rfl hin (mem_ready.1 hr).1 j hnj hj
    by_cases e : j = i
    · rw [e]; exact ⟨hin, hy.qOp hi h⟩
    · obtain ⟨hju, o', ho', hw'⟩ := mem_ready.1 hj
      have hnot : ∀ e', e' ∈ o'.after → Region.binds .any e' = true → e'.on ≠ i := by
        intro e' he' hb hon
        have h1 := hw' e' he' hb
        rw [hon, getD_both (mem_ready.1 hr).1] at h1
        cases h1
      refine ⟨hjn, qOp_mono ?_ (qOp_put ho' (hap j o' ho' e hju hnot) (fun cs b => hsel i o cs b hi) (fun cs b => hsel j o' cs b ho') hy (h.2 j (ready_mono hj e)).2)⟩
      rintro a' ⟨hy', h'⟩
      refine ih (done.setIfInBounds j true) a' (inv.set hj hjn) ?_ (ready_mono hr (Ne.symm e)) hy' (by rw [Array.setIfInBounds_comm _ _ e]; exact h')
      intro k ok hk hki hun hno
      refine hap k ok hk hki ?_ hno
      by_cases hjk : j = k
      · rw [← hjk]; exact hju
      · rwa [getD_set_ne true hjk] at hun

theorem Quiets.lex {n g : Nat} {K : Act → Prop} (hsel : Region.noSelect ops = true) (hs : Region.sinkB .any ops n = true) (hc : Region.chainB .any ops n = true) (hn : n < ops.size) (l : List Oper) :
    ∀ (k : Nat) (done : Array Bool) (a : Act), (∀ j, j < l.length → l[j]? = ops[k + j]?) → k + l.length = n → HeadInv .any ops n done → Region.lexHead .any ops g l.length k done = true →
      wpQuiet P ops C K l a → Quiets P ops C n (fun d b => Region.seqB .any ops g n d = true ∧ K b) l.length done a := by
  induction l with
  | nil =>
    intro k done a _ hk _ hB h
    obtain rfl : k = n := hk
    exact ⟨hB, h⟩
  | cons o l ih =>
    intro k done a hl hk inv hB h
    rw [List.length_cons] at hk
    have h0 : ops[k]? = some o := (hl 0 (Nat.succ_pos _)).symm
    simp only [List.length_cons, Region.lexHead, Bool.and_eq_true, List.contains_iff_mem] at hB
    obtain ⟨⟨hr, hfree⟩, hB⟩ := hB
    have hq : qOp P ops C k (wpQuiet P ops C K l) a := by unfold qOp; rw [h0]; exact h
    obtain ⟨v, hy, hnext⟩ := yieldsIn_of_qOp h0 hq
    refine Quiets.first h0 (Region.noSelect_spec hsel) hs hc hn (by omega) (fun d b hd => seqB_ready hd.1) l.length done a inv (Region.free_spec h0 hfree) hr hy ?_
    refine ih (k + 1) _ _ (fun j hj => ?_) (by omega) (inv.set hr (by omega)) hB hnext
    have := hl (j + 1) (by rw [List.length_cons]; omega)
    rwa [List.getElem?_cons_succ, show k + (j + 1) = k + 1 + j from by omega] at this

/-- THE REGION: n quiet operations in any order, then the rest one by one -/
theorem region_quiet_tail {id : Nat} {Q : Exit → Act → World → Prop} {a : Act} {w : World} {l : List Oper} (n : Nat) (hm : P.follows .mixedOrders = true) (hB : Region.lexTailB .any l.toArray n = true)
    (h : wpQuiet P l.toArray (fun w' => ∃ m, w' = w.drewN m) (fun b => ∀ m, wpList P l.toArray Q (l.drop n) b (w.drewN m)) (l.take n) a) : (Code.region id l.toArray true).wp P Q a w := by
  simp only [Region.lexTailB, Bool.and_eq_true, decide_eq_true_eq] at hB
  obtain ⟨⟨⟨⟨hsel, hn⟩, hs⟩, hc⟩, hlex⟩ := hB
  have hn' : n < l.length := by simpa using hn
  have htl : (l.take n).length = n := by rw [List.length_take]; omega
  have hdl : (l.drop n).length = l.toArray.size - n := by simp
  have inv : HeadInv .any l.toArray n (Array.replicate l.toArray.size false) :=
    ⟨by simp, fun j _ _ hl => (by rw [getD_replicate_false] at hl; cases hl), fun t _ ht => getD_in (by simpa using ht) (getD_replicate_false _ _)⟩
  have hlex' : Region.lexHead .any l.toArray (l.toArray.size - n) (l.take n).length 0 (Array.replicate l.toArray.size false) = true := by rw [htl]; exact hlex
  have H := Quiets.lex hsel hs hc hn (l.take n) 0 _ a (fun j hj => by rw [htl] at hj; simp [hj]) (by omega) inv hlex' h
  refine wp_region_any hm ?_
  have hC : ∃ m, ({ w with drawn := w.drawn + 1 } : World) = w.drewN m := ⟨1, rfl⟩
  have hrun := Quiets.runs (Q := Q) (g := l.toArray.size - n) (fun done b w' hw' hL => by
    obtain ⟨m, rfl⟩ := hw'
    have := wpAny_of_seq (md := .any) (Q' := Q) (l.drop n) n done b (w.drewN m) (fun j => by simp [List.getElem?_drop]) (by rw [hdl]; exact hL.1) (hL.2 m)
    rwa [hdl] at this) _ _ a _ hC H
  rw [htl, show n + (l.toArray.size - n) = l.toArray.size by omega] at hrun
  exact hrun
end
end Go.Proofs.YtafkjfpmjhfofaaDoor
