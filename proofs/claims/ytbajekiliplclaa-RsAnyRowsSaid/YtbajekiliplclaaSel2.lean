/-
  Select and the reference's Pick: chosen rows of a matrix.
-/
import Derived.Test.YtbajekiliplclaaSel
import Derived.Test.YtbajekiliplclaaLawM2
namespace Go.Proofs.Ytbajekiliplclaa
open Go Go.RowKit
set_option linter.unusedVariables false

/-- the chosen rows -/
def selM (M : Nat → Nat → Nat) (l : List Int) : Nat → Nat → Nat := fun i j => M (l.getD i 0).toNat j
/-- the first k chosen rows -/
def selTo (M : Nat → Nat → Nat) (l : List Int) (k : Nat) : Nat → Nat → Nat := fun i j => if i < k then selM M l i j else 0
theorem selTo_step (M : Nat → Nat → Nat) (l : List Int) (k r : Nat) (hr : l.getD k 0 = (r : Int)) {C : Nat} (i j : Nat) (hj : j < C) : setRowM (selTo M l k) k (rowL C M r) i j = selTo M l (k + 1) i j := by
  unfold setRowM selTo
  by_cases e : i = k
  · subst e
    rw [if_pos rfl, if_pos (by omega), rowL_getD M r hj]
    unfold selM
    rw [hr]
    rfl
  · rw [if_neg e]
    by_cases h : i < k
    · rw [if_pos h, if_pos (by omega)]
    · rw [if_neg h, if_neg (by omega)]
theorem selM_lt {M : Nat → Nat → Nat} (h : ∀ i j, M i j < 256) (l : List Int) (i j : Nat) : selM M l i j < 256 := h _ _
/-- the rows before stop may be chosen, and stop may not -/
structure Stops (R : Nat) (l : List Int) (stop : Nat) : Prop where
  le : stop ≤ l.length
  good : ∀ i, i < stop → 0 ≤ l.getD i 0 ∧ l.getD i 0 < R
  bad : stop < l.length → ¬ (0 ≤ l.getD stop 0 ∧ l.getD stop 0 < R)
theorem stops_ex (R : Nat) (l : List Int) : ∃ stop, Stops R l stop := by
  by_cases h : ∃ i, i < l.length ∧ ¬ (0 ≤ l.getD i 0 ∧ l.getD i 0 < R)
  · have hmin : ∀ f n, (∃ i, i < n + f ∧ n ≤ i ∧ i < l.length ∧ ¬ (0 ≤ l.getD i 0 ∧ l.getD i 0 < R)) → (∀ i, i < n → 0 ≤ l.getD i 0 ∧ l.getD i 0 < R) → ∃ stop, Stops R l stop := by
      intro f
      induction f with
      | zero => rintro n ⟨i, h1, h2, _⟩ _; omega
      | succ f ih =>
        rintro n ⟨i, h1, h2, h3, h4⟩ hg
        by_cases hn : 0 ≤ l.getD n 0 ∧ l.getD n 0 < R
        · refine ih (n + 1) ⟨i, by omega, ?_, h3, h4⟩ fun k hk => ?_
          · rcases Nat.lt_or_ge n i with h | h
            · exact h
            · obtain rfl : n = i := by omega
              exact absurd hn h4
          · by_cases e : k = n
            · rw [e]; exact hn
            · exact hg k (by omega)
        · exact ⟨n, by omega, hg, fun _ => hn⟩
    obtain ⟨i, h1, h2⟩ := h
    exact hmin l.length 0 ⟨i, by omega, by omega, h1, h2⟩ fun i hi => absurd hi (Nat.not_lt_zero _)
  · exact ⟨l.length, Nat.le_refl _, fun i hi => Classical.byContradiction fun hn => h ⟨i, hi, hn⟩, fun hh => absurd hh (Nat.lt_irrefl _)⟩
/-- the chosen rows, or the error -/
def SelPost (B n C stop : Nat) (L : List Nat) (e : Ending) (w' : World) : Prop := (stop = n → MatRes B n C L 0 e w') ∧ (stop < n → MatRes B 0 0 [] 2 e w')

/-- the matrix that is returned has its cells within their capacity -/
def CapOk (e : Ending) : Prop := ∃ v0 v1 a m cap x, e = .returned (.tuple #[.agg #[v0, v1, .slice a m cap], x]) ∧ m ≤ cap
/-- what the loop of Select keeps -/
structure SInv (ob xb R C n nm : Nat) (a : Option Addr) (cap : Nat) (M : Nat → Nat → Nat) (l : List Int) (w wr : World) (i : Nat) : Prop where
  out : Own wr ob (flat n C (selTo M l i))
  bm : wr.heap[w.heap.size]? = some (Obj.cells #[.int .i64 R, .int .i64 C, .slice a nm cap] 52)
  br : wr.heap[w.heap.size + 1]? = some (Obj.cells #[.int .i64 0, .int .i64 0, .slice none 0 0] 52)
  bx : wr.heap[xb]? = some (Obj.cells #[.int .i64 n, .int .i64 C, .slice (some ⟨ob, 0, none⟩) (n * C : Nat) (n * C : Nat)] 52)
  below : Below w.heap.size w wr
  low : w.heap.size + 1 < ob ∧ xb ≠ ob
theorem SInv.step {ob xb R C n nm : Nat} {a : Option Addr} {cap : Nat} {M : Nat → Nat → Nat} {l : List Int} {w wr w2 w3 : World} {i i' : Nat} (h : SInv ob xb R C n nm a cap M l w wr i) (h1 : Below wr.heap.size wr w2) (h2 : Kept ob w2 w3) (ho : Own w3 ob (flat n C (selTo M l i'))) :
    SInv ob xb R C n nm a cap M l w w3 i' := by
  obtain ⟨n1, n2⟩ := h.low
  have hs := h1.size
  have hk : ∀ q o, wr.heap[q]? = some o → q ≠ ob → w3.heap[q]? = some o := fun q o hq hne => by
    have hl := lt_of_heap hq
    exact (h2.block q (by omega) hne).trans ((h1.block q hl).trans hq)
  refine ⟨ho, hk _ _ h.bm (by omega), hk _ _ h.br (by omega), hk _ _ h.bx n2, ?_, h.low⟩
  exact (known_end h.below h1).trans (h2.below (by have := h.below.size; omega) (by omega))
theorem SInv.below' {ob xb R C n nm : Nat} {a : Option Addr} {cap : Nat} {M : Nat → Nat → Nat} {l : List Int} {w wr w2 : World} {i : Nat} (h : SInv ob xb R C n nm a cap M l w wr i) (h1 : Below wr.heap.size wr w2) :
    SInv ob xb R C n nm a cap M l w w2 i := h.step h1 (Kept.refl _ _) (h.out.below h1 h.out.lt)

set_option maxRecDepth 100000 in
set_option maxHeartbeats 2000000 in
theorem Select_ok (R C : Nat) (a la : Option Addr) (nm cap n lc stop : Nat) (M : Nat → Nat → Nat) (l : List Int) (w : World) (hR : 1 ≤ R) (hR2 : R ≤ 255) (hC : 1 ≤ C) (hC2 : C ≤ 255) (hn : 1 ≤ n) (hn2 : n ≤ 255)
    (hnm : nm = R * C) (hcap : nm ≤ cap) (hMl : ∀ i j, M i j < 256) (hM : Bs w (.slice a nm cap) (flat R C M)) (hl : Is w (.slice la n lc) l) (hst : Stops R l stop) :
    Calls Try.prog 65 #[.agg #[.int .i64 R, .int .i64 C, .slice a nm cap], .slice la n lc] w fun e w' => SelPost w.heap.size n C stop (flat n C (selM M l)) e w' ∧ Below w.heap.size w w' ∧ (stop = n → CapOk e) := by
  have hnot : ∀ (x : Bool) (w : World), (Op.unary .not (.bool x)).run Try.prog w = .ok (.bool (!x)) w := fun _ _ => rfl
  obtain ⟨ab, ao, rfl⟩ := hM.some (flat_ne hR hC)
  obtain ⟨lb, lo, rfl, hlb, _⟩ := hl.addr (by omega)
  have hab : ab < w.heap.size := World.block_lt_of_cell? _ _ (hM.cell 0 (by rw [flat_length]; exact Nat.mul_pos (by omega) (by omega)))
  obtain ⟨w1, hw1⟩ : ∃ w1, w1 = (w.alloc (Obj.cells #[.int .i64 R, .int .i64 C, .slice (some ⟨ab, ao, none⟩) nm cap] 52)).alloc (Obj.cells #[.int .i64 0, .int .i64 0, .slice none 0 0] 52) := ⟨_, rfl⟩
  have hbel : Below w.heap.size w w1 := by rw [hw1]; exact ((Below.refl _ _).alloc (Nat.le_refl _) _).alloc (by simp) _
  have h0 : w1.heap[w.heap.size]? = some (Obj.cells #[.int .i64 R, .int .i64 C, .slice (some ⟨ab, ao, none⟩) nm cap] 52) := by rw [hw1]; exact heap_alloc (heap_new _ _) _
  have h1 : w1.heap[w.heap.size + 1]? = some (Obj.cells #[.int .i64 0, .int .i64 0, .slice none 0 0] 52) := by
    rw [hw1]
    have h5 := heap_new (w.alloc (Obj.cells #[.int .i64 R, .int .i64 C, .slice (some ⟨ab, ao, none⟩) nm cap] 52)) (Obj.cells #[.int .i64 0, .int .i64 0, .slice none 0 0] 52)
    rw [World.size_alloc] at h5
    exact h5
  have hs1 : w1.heap.size = w.heap.size + 2 := by rw [hw1]; simp
  obtain ⟨c0, c1, c2, _, _, _⟩ := c3_of h0
  have H0 := hid h0
  have H1 := hid h1
  have HS := hid hs1
  have HNM := hid hnm
  have HM := hid hM
  have HL := hid hl
  have HLN := hid hl.len
  have HST := hid hst
  have HMLT := hid hMl
  clear h0 h1 hs1 hnm hM hl hst hMl
  go_enter Try.func65, Try.ntmps65
  go_wp2_with fail
  rw [← hw1]
  clear hw1
  refine (Valid_yes R C nm _ cap hR hR2 hC hC2 HNM.out _).mono ?_
  rintro e w2 ⟨rfl, hb2⟩
  clear c0 c1 c2
  go_wp2_with fail
  refine (inRange_yes n (by omega) (by omega) _).mono ?_
  rintro e w' ⟨rfl, rfl⟩
  obtain ⟨c0, c1, c2, _, _, _⟩ := c3_at H0.out hb2 (by rw [HS.out]; omega)
  have hsz2 := hb2.size
  go_wp2_with fail
  refine (zeros_any n C (by omega) (by omega) _).mono ?_
  rintro e w3 ⟨ob, hob, rfl, ho3, hb3⟩
  clear c0 c1 c2
  have hinv : SInv ob w3.heap.size R C n nm (some ⟨ab, ao, none⟩) cap M l w (w3.alloc (Obj.cells #[.int .i64 n, .int .i64 C, .slice (some ⟨ob, 0, none⟩) (n * C : Nat) (n * C : Nat)] 52)) 0 := by
    have hS := HS.out
    have hb13 := known_end hb2 hb3
    have hol := ho3.lt
    refine ⟨?_, heap_alloc ((hb13.block _ (by omega)).trans H0.out) _, heap_alloc ((hb13.block _ (by omega)).trans H1.out) _, heap_new _ _, (known_end hbel hb13).alloc (by have := hb13.size; omega) _, by omega, by omega⟩
    have h5 := ho3.alloc (Obj.cells #[.int .i64 n, .int .i64 C, .slice (some ⟨ob, 0, none⟩) (n * C : Nat) (n * C : Nat)] 52)
    rwa [flat_congr (fun i j _ _ => show 0 = selTo M l 0 i j from by unfold selTo; rw [if_neg (by omega)])] at h5
  have HINV := hid hinv
  have hnC : n * C ≤ 65025 := Nat.mul_le_mul hn2 hC2
  clear hinv hbel hb2 ho3 hb3
  generalize hnc : n * C = nc at *
  have HNC := hid hnc
  clear hnc
  go_wp2
  go_loopw [26] (fun iv wr => ∃ i : Nat, i ≤ n ∧ i ≤ stop ∧ iv = .int .i64 i ∧ Hid (SInv ob w3.heap.size R C n nm (some ⟨ab, ao, none⟩) cap M l w wr i)) (fun iv _ => n - (intOf iv).toNat)
  case atStart => exact ⟨0, by omega, by omega, rfl, HINV⟩
  case round =>
    clear HINV
    obtain ⟨i, hi, his, rfl, HINV⟩ := hrel
    by_cases hlt : i < n
    · obtain ⟨lb', lo', hv, _, hcl⟩ := (HL.out.below HINV.out.below).addr (by omega)
      simp only [Option.some.injEq, Addr.mk.injEq, and_true] at hv
      obtain ⟨rfl, rfl⟩ := hv
      have ci := hcl i (by rw [← HLN.out]; exact hlt)
      clear hcl
      obtain ⟨c0, c1, c2, _, _, _⟩ := c3_of HINV.out.bm
      by_cases hs : i < stop
      · obtain ⟨r, hr⟩ : ∃ r : Nat, l.getD i 0 = (r : Int) := ⟨(l.getD i 0).toNat, by have := (HST.out.good i hs).1; omega⟩
        have hrR : r < R := by have := (HST.out.good i hs).2; omega
        rw [hr] at ci
        have HR := hid hr
        clear hr
        go_wp2_with fail
        go_region_held3 (fun w' => w'.cell? ⟨w.heap.size, 0, none⟩ = some (.int .i64 R) ∧ w'.cell? ⟨w.heap.size, 1, none⟩ = some (.int .i64 C) ∧ w'.cell? ⟨w.heap.size, 2, none⟩ = some (.slice (some ⟨ab, ao, none⟩) nm cap) ∧ w'.cell? ⟨w3.heap.size, 0, none⟩ = some (.int .i64 n) ∧ w'.cell? ⟨w3.heap.size, 1, none⟩ = some (.int .i64 C) ∧ w'.cell? ⟨w3.heap.size, 2, none⟩ = some (.slice (some ⟨ob, 0, none⟩) nc nc))
          (first | with_reducible exact keep66 HINV.out.bm (HNC.out ▸ HINV.out.bx) | with_reducible exact keep66 (HINV.out.below' (chainA hb6)).bm (HNC.out ▸ (HINV.out.below' (chainA hb6)).bx) | with_reducible exact keep66 (HINV.out.below' (chainB hb6 hb7)).bm (HNC.out ▸ (HINV.out.below' (chainB hb6 hb7)).bx) | with_reducible exact keep66 HNX.out.bm (HNC.out ▸ HNX.out.bx) | exact keep66 HINV.out.bm (HNC.out ▸ HINV.out.bx))
          (first | (go_at_call_of 91 (Value.int .i64 (i : Int)); refine (row0_any n C i ob nc nc hlt hC (by omega) (by omega) HNC.out.symm (Nat.le_refl _) _).mono ?_; rintro e w6 ⟨rfl, hb6⟩)
                 | (go_at_call_of 91 (Value.int .i64 (r : Int)); refine (row_any R C r ab ao nm cap hrR hC (by omega) (by omega) HNM.out hcap _).mono ?_; rintro e w7 ⟨rfl, hb7⟩)
                 | (refine step_copy_row rfl (.tmp 42) (.tmp 45) rfl ob n C i (nc - i * C) (selTo M l i) hlt hC rfl _ (cap - r * C) rfl (HINV.out.below' (chainB hb6 hb7)).out (rowL C M r) ((HM.out.below (HINV.out.below' (chainB hb6 hb7)).below).row r hrR _) ?_; intro w8 ho8 hk8; rw [flat_congr (fun a b _ hb => selTo_step M l i r HR.out a b hb)] at ho8; have HNX := hid (HINV.out.step (chainB hb6 hb7) hk8 ho8)))
        go_wp2
        exact ⟨⟨i + 1, by omega, by omega, by go_num, HNX⟩, by simp [intOf]; omega⟩
      · obtain rfl : i = stop := by omega
        have hbad := HST.out.bad (by rw [← HLN.out]; exact hlt)
        obtain ⟨d0, d1, d2, f0, f1, f2⟩ := c3_of HINV.out.br
        generalize l.getD i 0 = ri at *
        by_cases hr0 : ri < 0
        · clear hbad
          go_wp2
          refine bodyPost_ret (v := .tuple #[.agg #[.int .i64 0, .int .i64 0, .slice none 0 0], .int .i64 2]) (by simp [results, Try.results65, go_sem, d0, d1, d2]) rfl ⟨⟨fun h => by omega, fun _ => ⟨none, 0, 0, rfl, bs_nil _, fun _ h => by cases h⟩⟩, ?_, fun h => by omega⟩
          exact ((HINV.out.below.setCell (by simp) _).setCell (by simp) _).setCell (by simp) _
        · have hr1 : (R : Int) ≤ ri := by omega
          clear hbad
          go_wp2
          refine bodyPost_ret (v := .tuple #[.agg #[.int .i64 0, .int .i64 0, .slice none 0 0], .int .i64 2]) (by simp [results, Try.results65, go_sem, d0, d1, d2]) rfl ⟨⟨fun h => by omega, fun _ => ⟨none, 0, 0, rfl, bs_nil _, fun _ h => by cases h⟩⟩, ?_, fun h => by omega⟩
          exact ((HINV.out.below.setCell (by simp) _).setCell (by simp) _).setCell (by simp) _
    · obtain rfl : i = n := by omega
      obtain ⟨a0, a1, a2, _, _, _⟩ := c3_of HINV.out.bx
      rw [HNC.out] at a2
      obtain ⟨d0, d1, d2, f0, f1, f2⟩ := c3_of HINV.out.br
      have hout := HINV.out.out
      have hlow := HINV.out.low
      rw [flat_congr (fun a b ha _ => show selTo M l i a b = selM M l a b from by unfold selTo; rw [if_pos ha])] at hout
      go_wp2
      refine bodyPost_ret (v := .tuple #[.agg #[.int .i64 i, .int .i64 C, .slice (some ⟨ob, 0, none⟩) nc nc], .int .i64 0]) (by simp [results, Try.results65, go_sem, d0, d1, d2]) rfl ⟨⟨fun h => ⟨_, nc, nc, rfl, ?_, fun ad h => by cases h; show w.heap.size ≤ ob; omega⟩, fun h => by omega⟩, ?_, fun _ => ⟨_, _, _, nc, nc, _, rfl, Nat.le_refl _⟩⟩
      · have h5 := (((hout.setCell (p := ⟨w.heap.size + 1, 0, none⟩) (by show w.heap.size + 1 ≠ ob; omega) (.int .i64 i)).setCell (p := ⟨w.heap.size + 1, 1, none⟩) (by show w.heap.size + 1 ≠ ob; omega) (.int .i64 C)).setCell (p := ⟨w.heap.size + 1, 2, none⟩) (by show w.heap.size + 1 ≠ ob; omega) (.slice (some ⟨ob, 0, none⟩) nc nc)).bs (flat_lt (selM_lt HMLT.out l)) nc
        rw [flat_length, HNC.out] at h5
        exact h5
      · exact ((HINV.out.below.setCell (by simp) _).setCell (by simp) _).setCell (by simp) _

theorem take_snoc (l : List Nat) (p : Nat) (h : p < l.length) : l.take (p + 1) = l.take p ++ [l.getD p 0] := by
  rw [List.take_succ_eq_append_getElem h, List.getD_eq_getElem?_getD, List.getElem?_eq_getElem h]
  rfl
/-- what the loops of Pick keep -/
structure PkInv (R C n nm : Nat) (a : Option Addr) (cap : Nat) (L : List Nat) (w wr : World) (v : Value) (p : Nat) : Prop where
  own : wr.ownsRow (w.heap.size + 2) 5 1 v p (u8s (L.take p))
  bm : wr.heap[w.heap.size]? = some (Obj.cells #[.int .i64 R, .int .i64 C, .slice a nm cap] 52)
  br : wr.heap[w.heap.size + 1]? = some (Obj.cells #[.int .i64 0, .int .i64 0, .slice none 0 0] 52)
  below : Below w.heap.size w wr
  big : w.heap.size + 2 ≤ wr.heap.size
theorem PkInv.step {R C n nm : Nat} {a : Option Addr} {cap : Nat} {L : List Nat} {w wr w2 w3 : World} {v v' : Value} {p : Nat} (h : PkInv R C n nm a cap L w wr v p) (h1 : Below wr.heap.size wr w2) (h2 : w2.grownBy w3 v.ownBlock) (ho : w3.ownsRow (w.heap.size + 2) 5 1 v' (p + 1) (u8s (L.take p) ++ [.int .u8 ((L.getD p 0 : Nat) : Int)])) (hp : p < L.length) :
    PkInv R C n nm a cap L w w3 v' (p + 1) := by
  have hb := h.big
  have hs := h1.size
  have hne : ∀ g, v.ownBlock = some g → w.heap.size + 2 ≤ g := fun g hg => by
    obtain ⟨_, h7⟩ := h.own
    rcases h7 with ⟨h8, _⟩ | ⟨g', cap, cur, h8, h9, _⟩
    · subst h8; cases hg
    · subst h8; simp [Value.ownBlock] at hg; omega
  have hk : ∀ q o, wr.heap[q]? = some o → q < w.heap.size + 2 → w3.heap[q]? = some o := fun q o hq hlt => by
    refine (h2.block q (by omega) (fun e => ?_)).trans ((h1.block q (by omega)).trans hq)
    have := hne q e.symm
    omega
  refine ⟨?_, hk _ _ h.bm (by omega), hk _ _ h.br (by omega), (h.below.trans (h1.mono (by omega))).grown h2 (by omega) (fun g hg => by have := hne g hg; omega), ?_⟩
  · rw [take_snoc L p hp, ← u8s_snoc]; exact ho
  · have := h2.size
    omega

theorem PkInv.below' {R C n nm : Nat} {a : Option Addr} {cap : Nat} {L : List Nat} {w wr w2 : World} {v : Value} {p : Nat} (h : PkInv R C n nm a cap L w wr v p) (h1 : Below wr.heap.size wr w2) : PkInv R C n nm a cap L w w2 v p :=
  ⟨owns_below h.own h1, (h1.block _ (lt_of_heap h.bm)).trans h.bm, (h1.block _ (lt_of_heap h.br)).trans h.br, known_end h.below h1, Nat.le_trans h.big h1.size⟩
theorem PkInv.keep {R C n nm : Nat} {a : Option Addr} {cap : Nat} {L : List Nat} {w wr w' : World} {v : Value} {p : Nat} {lb o1 ab o2 : Nat} {x y : Value} (h : PkInv R C n nm a cap L w w' v p) (k1 : Below w.heap.size w wr) (hlb : lb < w.heap.size) (hab : ab < w.heap.size) (ci : wr.cell? ⟨lb, o1, none⟩ = some x) (cm : wr.cell? ⟨ab, o2, none⟩ = some y) :
    w'.cell? ⟨w.heap.size, 1, none⟩ = some (.int .i64 C) ∧ w'.cell? ⟨w.heap.size, 2, none⟩ = some (.slice a nm cap) ∧ w'.cell? ⟨lb, o1, none⟩ = some x ∧ w'.cell? ⟨ab, o2, none⟩ = some y := by
  obtain ⟨_, c1, c2, _, _, _⟩ := c3_of h.bm
  refine ⟨c1, c2, ?_, ?_⟩
  · rw [h.below.cell (p := ⟨lb, o1, none⟩) hlb, ← k1.cell (p := ⟨lb, o1, none⟩) hlb]; exact ci
  · rw [h.below.cell (p := ⟨ab, o2, none⟩) hab, ← k1.cell (p := ⟨ab, o2, none⟩) hab]; exact cm
theorem one_u8 (x : Nat) : ∀ u ∈ [Value.int .u8 (x : Int)], u.oneCell' = true := by
  intro u hu; simp only [List.mem_singleton] at hu; subst hu; rfl
theorem PkInv.draw {R C n nm : Nat} {a : Option Addr} {cap : Nat} {L : List Nat} {w wr : World} {v : Value} {p : Nat} (h : PkInv R C n nm a cap L w wr v p) (q : Nat) : PkInv R C n nm a cap L w (wr.drewN q) v p :=
  ⟨owns_below h.own (bel_drewN (Below.refl _ _) q), h.bm, h.br, bel_drewN h.below q, h.big⟩

set_option maxRecDepth 100000 in
set_option maxHeartbeats 2000000 in
theorem Pick_ok (R C : Nat) (a la : Option Addr) (nm cap n lc stop : Nat) (M : Nat → Nat → Nat) (l : List Int) (w : World) (hR : 1 ≤ R) (hR2 : R ≤ 255) (hC : 1 ≤ C) (hC2 : C ≤ 255) (hn : 1 ≤ n) (hn2 : n ≤ 255)
    (hnm : nm = R * C) (hMl : ∀ i j, M i j < 256) (hM : Bs w (.slice a nm cap) (flat R C M)) (hl : Is w (.slice la n lc) l) (hst : Stops R l stop) :
    Calls Try.prog 66 #[.agg #[.int .i64 R, .int .i64 C, .slice a nm cap], .slice la n lc] w fun e w' => SelPost w.heap.size n C stop (flat n C (selM M l)) e w' ∧ Below w.heap.size w w' := by
  have hnot : ∀ (x : Bool) (w : World), (Op.unary .not (.bool x)).run Try.prog w = .ok (.bool (!x)) w := fun _ _ => rfl
  obtain ⟨i0, hi0, hz0, hz1, hz2⟩ := info_parts info5
  obtain ⟨ab, ao, rfl⟩ := hM.some (flat_ne hR hC)
  obtain ⟨lb, lo, rfl, hlb, _⟩ := hl.addr (by omega)
  have hab : ab < w.heap.size := World.block_lt_of_cell? _ _ (hM.cell 0 (by rw [flat_length]; exact Nat.mul_pos (by omega) (by omega)))
  obtain ⟨w1, hw1⟩ : ∃ w1, w1 = (w.alloc (Obj.cells #[.int .i64 R, .int .i64 C, .slice (some ⟨ab, ao, none⟩) nm cap] 52)).alloc (Obj.cells #[.int .i64 0, .int .i64 0, .slice none 0 0] 52) := ⟨_, rfl⟩
  have hbel : Below w.heap.size w w1 := by rw [hw1]; exact ((Below.refl _ _).alloc (Nat.le_refl _) _).alloc (by simp) _
  have h0 : w1.heap[w.heap.size]? = some (Obj.cells #[.int .i64 R, .int .i64 C, .slice (some ⟨ab, ao, none⟩) nm cap] 52) := by rw [hw1]; exact heap_alloc (heap_new _ _) _
  have h1 : w1.heap[w.heap.size + 1]? = some (Obj.cells #[.int .i64 0, .int .i64 0, .slice none 0 0] 52) := by
    rw [hw1]
    have h5 := heap_new (w.alloc (Obj.cells #[.int .i64 R, .int .i64 C, .slice (some ⟨ab, ao, none⟩) nm cap] 52)) (Obj.cells #[.int .i64 0, .int .i64 0, .slice none 0 0] 52)
    rw [World.size_alloc] at h5
    exact h5
  have hs1 : w1.heap.size = w.heap.size + 2 := by rw [hw1]; simp
  obtain ⟨c0, c1, c2, _, _, _⟩ := c3_of h0
  have H0 := hid h0
  have H1 := hid h1
  have HS := hid hs1
  have HNM := hid hnm
  have HM := hid hM
  have HL := hid hl
  have HLN := hid hl.len
  have HST := hid hst
  have HMLT := hid hMl
  clear h0 h1 hs1 hnm hM hl hst hMl
  have hnC : n * C ≤ 65025 := Nat.mul_le_mul hn2 hC2
  have bq0 : ((n : Int) == 0) = false := by simp; omega
  have bq1 : decide ((255 : Int) < (n : Int)) = false := by simp; omega
  go_enter Try.func66, Try.ntmps66
  go_wp2_with fail
  rw [← hw1]
  clear hw1
  refine (Good_yes R C nm _ cap hR hR2 hC hC2 HNM.out _).mono ?_
  rintro e w2 ⟨rfl, hb2⟩
  clear c0 c1 c2
  have hsz2 := hb2.size
  have hinv : PkInv R C n nm (some ⟨ab, ao, none⟩) cap (flat n C (selM M l)) w (w2.alloc (Obj.cells #[] 5)) (.slice (some ⟨w2.heap.size, 0, none⟩) 0 0) 0 := by
    have hS := HS.out
    refine ⟨⟨rfl, .inr ⟨w2.heap.size, 0, #[], rfl, by omega, heap_new _ _, Nat.le_refl _, Nat.zero_le _, rfl, rfl⟩⟩, heap_alloc ((hb2.block _ (by omega)).trans H0.out) _, heap_alloc ((hb2.block _ (by omega)).trans H1.out) _, (known_end hbel hb2).alloc (by omega) _, by simp; omega⟩
  have HINV := hid hinv
  clear hinv hbel hb2
  go_wp2
  go_loopw [6, 7] (fun v iv wr => ∃ i : Nat, i ≤ n ∧ i ≤ stop ∧ iv = .int .i64 i ∧ Hid (PkInv R C n nm (some ⟨ab, ao, none⟩) cap (flat n C (selM M l)) w wr v (i * C))) (fun _ iv _ => n - (intOf iv).toNat)
  case atStart => exact ⟨0, by omega, by omega, rfl, by rw [Nat.zero_mul]; exact HINV⟩
  case round =>
    clear HINV
    obtain ⟨i, hi, his, rfl, HINV⟩ := hrel
    by_cases hlt : i < n
    · obtain ⟨lb', lo', hv, _, hcl⟩ := (HL.out.below HINV.out.below).addr (by omega)
      simp only [Option.some.injEq, Addr.mk.injEq, and_true] at hv
      obtain ⟨rfl, rfl⟩ := hv
      have ci := hcl i (by rw [← HLN.out]; exact hlt)
      clear hcl
      obtain ⟨c0, c1, c2, _, _, _⟩ := c3_of HINV.out.bm
      by_cases hs : i < stop
      · obtain ⟨r, hr⟩ : ∃ r : Nat, l.getD i 0 = (r : Int) := ⟨(l.getD i 0).toNat, by have := (HST.out.good i hs).1; omega⟩
        have hrR : r < R := by have := (HST.out.good i hs).2; omega
        rw [hr] at ci
        have HR := hid hr
        have b1 : decide ((r : Int) < 0) = false := by simp
        have b2 : decide (R ≤ r) = false := by simp; omega
        clear hr
        go_wp2_with fail
        go_quiet (fail)
        go_wp2
        clear ci c0 c1 c2
        go_loopw [6, 8] (fun v jv wr => ∃ j : Nat, j ≤ C ∧ jv = .int .i64 j ∧ Hid (PkInv R C n nm (some ⟨ab, ao, none⟩) cap (flat n C (selM M l)) w wr v (i * C + j))) (fun _ jv _ => C - (intOf jv).toNat)
        case atStart => exact ⟨0, by omega, rfl, by rw [Nat.add_zero]; exact hid (HINV.out.draw nq)⟩
        case round =>
          clear HINV
          obtain ⟨j, hj, rfl, HINV⟩ := hrel
          obtain ⟨c0, c1, c2, _, _, _⟩ := c3_of HINV.out.bm
          by_cases hlt2 : j < C
          · obtain ⟨lb', lo', hv, _, hcl⟩ := (HL.out.below HINV.out.below).addr (by omega)
            simp only [Option.some.injEq, Addr.mk.injEq, and_true] at hv
            obtain ⟨rfl, rfl⟩ := hv
            have ci := hcl i (by rw [← HLN.out]; exact hlt)
            rw [HR.out] at ci
            clear hcl
            have cm := (HM.out.below HINV.out.below).cell (r * C + j) (by rw [flat_length]; exact ix_lt hrR hlt2)
            rw [flat_getD M hrR hlt2] at cm
            have hL : (flat n C (selM M l)).getD (i * C + j) 0 = M r j := by
              rw [flat_getD _ hlt hlt2]
              unfold selM
              rw [HR.out]
              rfl
            have HLL := hid hL
            have p1 := ix_lt hrR hlt2
            have p2 := ix_lt hlt hlt2
            have HP2 := hid p2
            rw [← HNM.out] at p1
            have hnm2 : nm ≤ 65025 := by rw [HNM.out]; exact Nat.mul_le_mul hR2 hC2
            have m1 := mul_nat (r := r) (c := C) rfl
            have n1 : IntKind.i64.wrap (((r * C : Nat) : Int) + (j : Int)) = ((r * C + j : Nat) : Int) := by rw [IntKind.wrap_i64]; omega
            have q1 : IntKind.i64.wrap ((r * C : Nat) : Int) = ((r * C : Nat) : Int) := by rw [IntKind.wrap_i64]; omega
            clear hL
            generalize M r j = x at *
            generalize r * C + j = i1 at *
            generalize r * C = z1 at *
            generalize hpp : i * C + j = pp at *
            have HPP := hid hpp
            have HML := hid (show pp + 1 ≤ maxLen by unfold maxLen; have := HP2.out; omega)
            have HMB := hid (show (pp + 1) * 1 ≤ 140737488355328 by have := HP2.out; omega)
            have HBIG := hid (show w.heap.size + 2 ≤ (wr.drew.alloc (Obj.cells #[.int .u8 (x : Int)] 5)).heap.size by have := HINV.out.big; simp; omega)
            clear hpp
            go_wp2_with fail
            go_region_held3 (fun w' => w'.cell? ⟨w.heap.size, 1, none⟩ = some (.int .i64 C) ∧ w'.cell? ⟨w.heap.size, 2, none⟩ = some (.slice (some ⟨ab, ao, none⟩) nm cap) ∧ w'.cell? ⟨lb, lo + i, none⟩ = some (.int .i64 r) ∧ w'.cell? ⟨ab, ao + i1, none⟩ = some (.int .u8 x))
              (first | with_reducible exact HINV.out.keep HINV.out.below hlb hab ci cm | with_reducible exact (HINV.out.below' ((bel_drewN (Below.refl _ _) 1).alloc (Nat.le_refl _) _)).keep HINV.out.below hlb hab ci cm | with_reducible exact HNX.out.keep HINV.out.below hlb hab ci cm | exact HINV.out.keep HINV.out.below hlb hab ci cm | exact (HINV.out.below' ((bel_drewN (Below.refl _ _) 1).alloc (Nat.le_refl _) _)).keep HINV.out.below hlb hab ci cm)
              ((refine step_append_own rfl (.tmp 51) (.tmp 65) _ rfl (w.heap.size + 2) 5 i0 (.int .u8 0) 1 1 Try.underlying27 hi0 hz0 hz1 hz2 rfl (by decide) _ pp (u8s ((flat n C (selM M l)).take pp)) rfl (owns_below HINV.out.own ((bel_drewN (Below.refl _ _) 1).alloc (Nat.le_refl _) _)) ⟨wr.heap.size, 0, none⟩ 1 1 [.int .u8 (x : Int)] rfl rfl (cell_of_new _ _ _) (one_u8 x) HML.out HMB.out HBIG.out ?_; intro v' w5 hown5 hg5; rw [← HLL.out] at hown5; have HNX := hid (HINV.out.step (chainA ((Below.refl _ _).alloc (Nat.le_refl _) _)) hg5 hown5 (by rw [flat_length]; exact HP2.out))))
            go_wp2
            go_roundw
            case rel => exact ⟨j + 1, by omega, by go_num, by rw [← Nat.add_assoc, HPP.out]; exact HNX⟩
            case measure => simp [intOf]; omega
          · obtain rfl : j = C := by omega
            have hnx : PkInv R j n nm (some ⟨ab, ao, none⟩) cap (flat n j (selM M l)) w wr u6 ((i + 1) * j) := by rw [Nat.succ_mul]; exact HINV.out
            have HNX := hid hnx
            clear hnx HINV
            go_wp2
            exact ⟨⟨i + 1, by omega, by omega, by go_num, HNX⟩, by simp [intOf]; omega⟩
      · obtain rfl : i = stop := by omega
        have hbad := HST.out.bad (by rw [← HLN.out]; exact hlt)
        obtain ⟨d0, d1, d2, f0, f1, f2⟩ := c3_of HINV.out.br
        generalize l.getD i 0 = ri at *
        by_cases hr0 : ri < 0
        · clear hbad
          go_wp2_with fail
          go_quiet (fail)
          go_wp2
          refine bodyPost_ret (v := .tuple #[.agg #[.int .i64 0, .int .i64 0, .slice none 0 0], .int .i64 2]) (by simp [results, Try.results66, go_sem, d0, d1, d2]) rfl ⟨⟨fun h => by omega, fun _ => ⟨none, 0, 0, rfl, bs_nil _, fun _ h => by cases h⟩⟩, ?_⟩
          exact (((bel_drewN HINV.out.below nq).setCell (by simp) _).setCell (by simp) _).setCell (by simp) _
        · have hr1 : (R : Int) ≤ ri := by omega
          clear hbad
          go_wp2_with fail
          go_quiet (fail)
          go_wp2
          refine bodyPost_ret (v := .tuple #[.agg #[.int .i64 0, .int .i64 0, .slice none 0 0], .int .i64 2]) (by simp [results, Try.results66, go_sem, d0, d1, d2]) rfl ⟨⟨fun h => by omega, fun _ => ⟨none, 0, 0, rfl, bs_nil _, fun _ h => by cases h⟩⟩, ?_⟩
          exact (((bel_drewN HINV.out.below nq).setCell (by simp) _).setCell (by simp) _).setCell (by simp) _
    · obtain rfl : i = n := by omega
      obtain ⟨a0, a1, a2, _, _, _⟩ := c3_of HINV.out.bm
      obtain ⟨d0, d1, d2, f0, f1, f2⟩ := c3_of HINV.out.br
      obtain ⟨va, vc, rfl, hm1, hm2, hbs, hlow⟩ := bs_of_owns HINV.out.own (fun x hx => flat_lt (selM_lt HMLT.out l) x (List.mem_of_mem_take hx))
      rw [List.take_of_length_le (by rw [flat_length]; exact Nat.le_refl _)] at hbs
      have hoff : Off (w.heap.size + 1) (.slice va (i * C) vc) := off_low (fun ad h => (hlow ad h).1) (by omega)
      have HBS := hid hbs
      have HLOW := hid hlow
      have hbl := HINV.out.below
      clear HINV hbs hlow hnC hm1 hm2
      generalize i * C = nc at *
      have HOFF := hid hoff
      clear hoff
      go_wp2
      have hoff := HOFF.out
      refine bodyPost_ret (v := .tuple #[.agg #[.int .i64 i, .int .i64 C, .slice va nc vc], .int .i64 0]) (by simp [results, Try.results66, go_sem, d0, d1, d2]) rfl ⟨⟨fun h => ⟨va, nc, vc, rfl, ((HBS.out.set_off hoff _ _).set_off hoff _ _).set_off hoff _ _, fun ad h => by have := (HLOW.out ad h).1; omega⟩, fun h => by omega⟩, ?_⟩
      exact ((hbl.setCell (by simp) _).setCell (by simp) _).setCell (by simp) _
end Go.Proofs.Ytbajekiliplclaa
