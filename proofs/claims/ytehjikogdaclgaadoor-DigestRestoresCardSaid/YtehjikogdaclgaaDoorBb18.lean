/-
  mine of the digest's laws: a copy of a list of pieces. · The pieces that mine has copied: what a call may read of them, whatever becomes of the field. · A list of pieces out of which some are chosen, one after another. · A piece that a law's region makes: its allocation and its store as steps; bytes that lie elsewhere; a copy's answers. · Lists of pieces: an empty one made in a region, and parts of one.
-/
import Derived.Test.YtehjikogdaclgaaDoorBb17
import Derived.Test.YtehjikogdaclgaaDoorBb16
import Derived.Test.YtehjikogdaclgaaDoorBb10
import Derived.Deep.AppendLies
import Derived.Deep.RegionLaw
import Derived.IntWalk
import Derived.Test.YtehjikogdaclgaaDoorBb7
namespace Go.Proofs.YtehjikogdaclgaaDoor
open Go Go.RowKit
set_option linter.unusedVariables false

set_option maxRecDepth 100000 in
set_option maxHeartbeats 2000000 in
theorem mineD_any (a : Option Addr) (n c : Nat) (ps : List (Int × Sl)) (D : Nat → List Nat) (w : World) (hn : n ≤ 100000) (hp : Ps w (.slice a n c) ps) (hD : ∀ i, (h : i < ps.length) → Bs w (.slice ps[i].2.1 ps[i].2.2.1 ps[i].2.2.2) (D i) ∧ (ps[i].2.1 = none → ps[i].2.2.2 = 0) ∧ ps[i].2.2.1 ≤ 800000000) :
    Calls Tryd.prog 14 #[.slice a n c] w fun e w' => ∃ v qs, e = .returned v ∧ MineI w w' v n ps qs D := by
  have hnp : n = ps.length := by obtain ⟨_, _, h, _⟩ := hp; simp at h; exact h.2.1
  have HN := hid hnp
  have HP := hid hp
  have HD := hid hD
  obtain ⟨i0, hi0, hz0, hz1, hz2⟩ := info_parts info36
  clear hnp hp hD
  have h0 : MineI w (w.alloc (.cells #[] 44)) (.slice (some ⟨w.heap.size, 0, none⟩) 0 0) 0 ps [] D :=
    ⟨⟨rfl, .inr ⟨w.heap.size, 0, #[], rfl, Nat.le_refl _, heap_new _ _, Nat.le_refl _, Nat.zero_le _, rfl, rfl⟩⟩, rfl, fun j hj => absurd hj (Nat.not_lt_zero _), fun j hj => absurd hj (Nat.not_lt_zero _), (Below.refl _ _).alloc (Nat.le_refl _) _⟩
  have HINV := hid h0
  clear h0
  go_enter Tryd.func14, Tryd.ntmps14
  go_wp2
  go_loopw [3, 4] (fun v iv wr => ∃ (i : Nat) (qs : List (Int × Sl)), i ≤ n ∧ iv = .int .i64 i ∧ Hid (MineI w wr v i ps qs D)) (fun _ iv _ => n - (intOf iv).toNat)
  case atStart => exact ⟨0, [], by omega, rfl, HINV⟩
  case round =>
    clear HINV
    obtain ⟨i, qs, hi, rfl, HINV⟩ := hrel
    by_cases hlt : i < n
    · have HPr := HP.out.below HINV.out.below
      obtain ⟨b, o, rfl⟩ : ∃ b o, a = some ⟨b, o, none⟩ := by
        obtain ⟨a', c', h1, h3⟩ := HPr
        obtain ⟨b, o, ha, _⟩ := h3 (by intro e; rw [e] at HN; have := HN.out; simp at this; omega)
        simp at h1
        exact ⟨b, o, h1.1.trans ha⟩
      have hi2 : i < ps.length := by rw [← HN.out]; exact hlt
      obtain ⟨w0, w1⟩ := HP.out.cells i hi2
      obtain ⟨q0, q1⟩ := HPr.cells i hi2
      have hdd := HD.out i hi2
      rw [pidx_at] at q0 w0
      rw [plen_at] at q1 w1 hdd
      obtain ⟨x, hx⟩ : ∃ x, x = pidx ps i := ⟨_, rfl⟩
      obtain ⟨dn, hdn⟩ : ∃ m, m = plen' ps i := ⟨_, rfl⟩
      rw [← hx] at q0 w0
      rw [← hdn] at q1 w1 hdd
      have HX := hid hx
      have HDN := hid hdn
      clear hx hdn HPr
      generalize (ps[i]'_).2.1 = da at *
      generalize (ps[i]'_).2.2.2 = dc at *
      have hds := hdd.1.below HINV.out.below
      have HNIL := hid hdd.2.1
      have hdsz := hdd.2.2
      have HDS := hid hds
      have HQ0 := hid q0
      have HQ1 := hid q1
      have hbl := World.block_lt_of_cell? _ _ q0
      have hsz := HINV.out.below.size
      have hown0 : (wr.alloc (.cells #[] 5)).ownsRow w.heap.size 5 1 (.slice (some ⟨wr.heap.size, 0, none⟩) 0 0) 0 [] := ⟨rfl, .inr ⟨wr.heap.size, 0, #[], rfl, hsz, heap_new _ _, Nat.le_refl _, Nat.zero_le _, rfl, rfl⟩⟩
      have HO0 := hid hown0
      clear hds hdd hown0
      have hbl0 := World.block_lt_of_cell? _ _ w0
      have W0 := hid w0
      have W1 := hid w1
      clear w0 w1
      have hkeep : ∀ wx, Below w.heap.size w wx → wx.cell? ⟨b, o + i * 2, none⟩ = some (.int .i64 x) ∧ wx.cell? ⟨b, o + i * 2 + 1, none⟩ = some (.slice da dn dc) := fun wx hb => ⟨(hb.cell (p := ⟨b, o + i * 2, none⟩) hbl0).trans W0.out, (hb.cell (p := ⟨b, o + i * 2 + 1, none⟩) hbl0).trans W1.out⟩
      have hbW := HINV.out.below
      have HBW := hid hbW
      clear hbW
      have KEEP := hid hkeep
      have HI := hid HINV.out.own
      have HM1 := hid (show i + 1 ≤ maxLen by unfold maxLen; omega)
      have HM2 := hid (show (i + 1) * 32 ≤ 140737488355328 by omega)
      have hDl : ∀ y ∈ D i, y < 256 := by obtain ⟨_, _, _, h, _⟩ := HDS.out; exact h
      have HDl := hid hDl
      clear hkeep hDl
      go_wp2
      go_region_held3 (fun wx => wx.cell? ⟨b, o + i * 2, none⟩ = some (.int .i64 x) ∧ wx.cell? ⟨b, o + i * 2 + 1, none⟩ = some (.slice da dn dc))
        (first | with_reducible exact KS | with_reducible exact KEEP.out _ ((HBW.out.trans (hbA.mono HBW.out.size)).alloc (Nat.le_trans HBW.out.size hbA.size) _) | with_reducible exact KEEP.out _ (HBW.out.trans (hbA.mono HBW.out.size)) | exact KEEP.out _ (bel_drewN (HBW.out.alloc HBW.out.size _) 1) | exact KEEP.out _ ((bel_drewN HBW.out 1).alloc HBW.out.size _) | exact KEEP.out _ (bel_drewN HBW.out 1) | exact KEEP.out _ HBW.out)
        (first
          | (refine step_own_bytes rfl (.tmp 18) (.tmp 23) rfl w.heap.size wr.heap.size rfl HO0.out da dn dc (D i) rfl (by first | exact (HDS.out.alloc _).drewN 1 | exact (HDS.out.drewN 1).alloc _) HNIL.out (by omega) (by simp; omega) ?_
             intro v35 wA hdA hgA
             have hdA2 := hdA
             obtain ⟨a35, c35, e35, -, -, -, -⟩ := bs_of_owns hdA2 HDl.out
             subst e35
             have hbA : Below wr.heap.size wr wA := by first | exact (bel_drewN ((Below.refl _ _).alloc (Nat.le_refl _) (.cells #[] 5)) 1).grown hgA (by simp) (fun g hg => by simp at hg; omega) | exact ((bel_drewN (Below.refl _ _) 1).alloc (Nat.le_refl _) (.cells #[] 5)).grown hgA (by simp) (fun g hg => by simp at hg; omega)
             have HDA := hid hdA)
          | (refine step_append_own rfl (.tmp 12) (.tmp 26) _ rfl w.heap.size 44 i0 (.agg #[.int .i64 0, .slice none 0 0]) 2 32 Tryd.underlying28 hi0 hz0 hz1 hz2 rfl (by decide) _ i (pcells qs) rfl ((owns_below HI.out hbA).alloc _) ⟨wA.heap.size, 0, none⟩ 1 1 [.int .i64 x, .slice a35 dn c35] rfl rfl (cells_of_new2 _ _ _ _) (two_one _ 0 _ none _ _ 0 0 _) HM1.out HM2.out (by have := hbA.size; simp; omega) ?_
             intro v5 w5 hown5 hg5
             have hNX := HINV.out.next (Obj.cells #[.int .i64 x, .slice a35 dn c35] 44) x hbA HDA.out hown5 hg5 HX.out HDN.out
             have HNX := hid hNX
             have KS := KEEP.out _ HNX.out.below))
      all_goals
        go_wp2
        exact ⟨⟨i + 1, _, by omega, by go_num, HNX⟩, by simp [intOf]; omega⟩
    · obtain rfl : i = n := by omega
      go_wp2
      go_ret
      exact ⟨_, qs, rfl, HINV.out⟩
end Go.Proofs.YtehjikogdaclgaaDoor

namespace Go.Proofs.YtehjikogdaclgaaDoor
open Go Go.RowKit
set_option linter.unusedVariables false

theorem MineI.pdat {w wr : World} {v : Value} {n : Nat} {ps qs : List (Int × Sl)} {D : Nat → List Nat} (h : MineI w wr v n ps qs D) (hD : ∀ i, i < n → ∀ x ∈ D i, x < 256) (hs : ∀ i, i < n → plen' ps i ≤ 800000000) : PDat wr qs D := fun i hi => by
  have hlen := h.len
  obtain ⟨a, c, e, _, hc, hb, _⟩ := bs_of_owns (h.data i hi) (hD i (by omega))
  have hnil := nil_ownsJ (h.data i hi)
  have hl := (h.same i (by omega)).2
  have hl2 := plen_at qs i hi
  simp only [Value.slice.injEq] at e
  refine ⟨hb, by rw [e.2.2]; exact hc, hnil, ?_⟩
  have := hs i (by omega)
  omega
theorem MineI.held {fb : Nat} {w wr : World} {v : Value} {n : Nat} {ps qs : List (Int × Sl)} {D : Nat → List Nat} (h : MineI w wr v n ps qs D) (hD : ∀ i, i < n → ∀ x ∈ D i, x < 256) (hfb : fb < w.heap.size) : ∃ a' c', v = .slice a' n c' ∧ n ≤ c' ∧ Held fb wr (.slice a' n c') qs D := by
  have hlen := h.len
  obtain ⟨a', c', rfl, hc, _, _⟩ := h.reads hD
  refine ⟨a', c', rfl, hc, fun w' k => ?_⟩
  have hg : wr.grownBy w' (some fb) := ⟨k.os, k.tape, k.output, k.size, fun q hq hne => k.block q hq (fun e => hne (congrArg some e))⟩
  have hoff : ∀ {e : TypeId} {s m : Nat} {u : Value} {xs : List Value}, wr.ownsRow w.heap.size e s u m xs → w'.ownsRow w.heap.size e s u m xs := fun {e s m u xs} ho => ho.kept hg (by
    cases hob : u.ownBlock with
    | none => exact .inl rfl
    | some q =>
      right
      intro e2
      have h5 := (ho.lt q hob).1
      have h6 := Option.some.inj e2
      omega)
  have ho := hoff h.own
  have hdat : ∀ i, (h : i < qs.length) → Bs w' (.slice qs[i].2.1 qs[i].2.2.1 qs[i].2.2.2) (D i) := fun i hi => by
    obtain ⟨a, c, e, _, _, hb, _⟩ := bs_of_owns (hoff (h.data i hi)) (hD i (by omega))
    exact hb
  refine ⟨?_, hdat⟩
  rcases ho.2 with ⟨h1, h0⟩ | ⟨g, cap, cur, h1, h3, h4, h5, _⟩
  · subst h0
    have hq : qs = [] := List.eq_nil_of_length_eq_zero hlen
    subst hq
    rw [h1]
    exact ⟨none, 0, rfl, fun e => absurd rfl e⟩
  · rw [h1] at ho ⊢
    have h6 := ps_of_owns (c := cap) ho (show n ≤ qs.length by omega)
    rw [List.take_of_length_le (by omega)] at h6
    exact h6
/-- a copy's answers are those of the original -/
theorem mine_fns {w wr : World} {v : Value} {n : Nat} {ps qs : List (Int × Sl)} {D : Nat → List Nat} (h : MineI w wr v n ps qs D) (hn : n = ps.length) (k nn t s : Int) (m : Nat) (od : List Nat) (Dm : List (List Nat)) :
    asmE k nn t s m od Dm qs D n = asmE k nn t s m od Dm ps D n ∧ asmL k nn t s m od Dm qs D n = asmL k nn t s m od Dm ps D n := by
  obtain ⟨f1, f2⟩ := h.fns hn
  have f3 : objL k s qs D = objL k s ps D := by unfold objL; rw [places_fn f1]
  have f4 : asmE k nn t s m od Dm qs D n = asmE k nn t s m od Dm ps D n := by unfold asmE; rw [f1, f3]
  exact ⟨f4, by unfold asmL; rw [f4, f3]⟩
end Go.Proofs.YtehjikogdaclgaaDoor

namespace Go.Proofs.YtehjikogdaclgaaDoor
open Go Go.RowKit
set_option linter.unusedVariables false

/-- the pieces of P with the numbers s -/
def selP (P : List (Int × Sl)) (s : List Nat) : List (Int × Sl) := s.map fun n => P.getD n (0, none, 0, 0)
theorem selP_length (P : List (Int × Sl)) (s : List Nat) : (selP P s).length = s.length := by simp [selP]
theorem selP_append (P : List (Int × Sl)) (s u : List Nat) : selP P (s ++ u) = selP P s ++ selP P u := by simp [selP]
theorem selP_all (P : List (Int × Sl)) (n : Nat) (h : P.length = n) : selP P (List.range n) = P := by
  apply List.ext_getElem?
  intro i
  unfold selP
  by_cases hi : i < n
  · rw [List.getElem?_map, List.getElem?_range hi, List.getElem?_eq_getElem (by omega)]
    simp [List.getD_eq_getElem?_getD, List.getElem?_eq_getElem (show i < P.length by omega)]
  · rw [List.getElem?_eq_none (by simp; omega), List.getElem?_eq_none (by omega)]
theorem selP_get (P : List (Int × Sl)) (s : List Nat) (j : Nat) (h : j < (selP P s).length) : (selP P s)[j] = P.getD (s.getD j 0) (0, none, 0, 0) := by
  have h2 : j < s.length := by rwa [selP_length] at h
  simp [selP, List.getD_eq_getElem?_getD, List.getElem?_eq_getElem h2]
theorem selP_idx (P : List (Int × Sl)) (s : List Nat) (j : Nat) (h : j < s.length) : pidx (selP P s) j = pidx P (s.getD j 0) := by
  rw [← pidx_at _ _ (by rw [selP_length]; exact h), selP_get]
  rfl
theorem selP_len' (P : List (Int × Sl)) (s : List Nat) (j : Nat) (h : j < s.length) : plen' (selP P s) j = plen' P (s.getD j 0) := by
  rw [← plen_at _ _ (by rw [selP_length]; exact h), selP_get]
  rfl
/-- one of the pieces, as a value -/
def oneP (P : List (Int × Sl)) (n : Nat) : List Value := [.int .i64 (P.getD n (0, none, 0, 0)).1, .slice (P.getD n (0, none, 0, 0)).2.1 (P.getD n (0, none, 0, 0)).2.2.1 (P.getD n (0, none, 0, 0)).2.2.2]
theorem selP_snoc (P : List (Int × Sl)) (s : List Nat) (n : Nat) : pcells (selP P s) ++ oneP P n = pcells (selP P (s ++ [n])) := by
  rw [selP_append, pcells_append]
  rfl
theorem pcells_len2 (p : List (Int × Sl)) : (pcells p).length = p.length * 2 := by
  induction p with
  | nil => rfl
  | cons x p ih => rw [show pcells (x :: p) = [.int .i64 x.1, .slice x.2.1 x.2.2.1 x.2.2.2] ++ pcells p from rfl, List.length_append, ih]; simp; omega
theorem pcells_oneC (p : List (Int × Sl)) : ∀ v ∈ pcells p, v.oneCell' = true := by
  induction p with
  | nil => intro v hv; cases hv
  | cons x p ih =>
    intro v hv
    rw [show pcells (x :: p) = [.int .i64 x.1, .slice x.2.1 x.2.2.1 x.2.2.2] ++ pcells p from rfl] at hv
    rcases List.mem_append.1 hv with h | h
    · simp only [List.mem_cons, List.not_mem_nil, or_false] at h
      rcases h with rfl | rfl <;> rfl
    · exact ih v h
theorem pcells_take (p : List (Int × Sl)) (j : Nat) : pcells (p.take j) = (pcells p).take (j * 2) := by
  induction p generalizing j with
  | nil => simp [pcells]
  | cons x p ih =>
    cases j with
    | zero => rfl
    | succ j =>
      rw [List.take_succ_cons, show (j + 1) * 2 = j * 2 + 1 + 1 from by omega, show pcells (x :: p) = .int .i64 x.1 :: .slice x.2.1 x.2.2.1 x.2.2.2 :: pcells p from rfl, List.take_succ_cons, List.take_succ_cons, ← ih]
      rfl
theorem pcells_drop (p : List (Int × Sl)) (j : Nat) : pcells (p.drop j) = (pcells p).drop (j * 2) := by
  induction p generalizing j with
  | nil => simp [pcells]
  | cons x p ih =>
    cases j with
    | zero => rfl
    | succ j =>
      rw [List.drop_succ_cons, show (j + 1) * 2 = j * 2 + 1 + 1 from by omega, show pcells (x :: p) = .int .i64 x.1 :: .slice x.2.1 x.2.2.1 x.2.2.2 :: pcells p from rfl, List.drop_succ_cons, List.drop_succ_cons, ← ih]
theorem selP_take (P : List (Int × Sl)) (s : List Nat) (j : Nat) : selP P (s.take j) = (selP P s).take j := by simp [selP, List.map_take]
theorem selP_drop (P : List (Int × Sl)) (s : List Nat) (j : Nat) : selP P (s.drop j) = (selP P s).drop j := by simp [selP, List.map_drop]

/-- the two lists together are the pieces with the numbers below total -/
structure ChP (B : Nat) (w wr : World) (vl vo : Value) (P : List (Int × Sl)) (total i : Nat) (L O : List Nat) : Prop where
  left : wr.ownsRow B 44 2 vl L.length (pcells (selP P L))
  out : wr.ownsRow B 44 2 vo i (pcells (selP P O))
  perm : (O ++ L).Perm (List.range total)
  len : O.length = i
  below : Below B w wr
  sep : ∀ g, vo.ownBlock = some g → vl.ownBlock ≠ some g
theorem ChP.count {B : Nat} {w wr : World} {vl vo : Value} {P : List (Int × Sl)} {total i : Nat} {L O : List Nat} (h : ChP B w wr vl vo P total i L O) : i + L.length = total := by
  have h1 := h.perm.length_eq
  rw [List.length_append, List.length_range, h.len] at h1
  exact h1
theorem ChP.chosen {B : Nat} {w wr : World} {vl vo : Value} {P : List (Int × Sl)} {total i : Nat} {L O : List Nat} (h : ChP B w wr vl vo P total i L O) : Chosen i total O := by
  have h1 : (O ++ L).Nodup := h.perm.nodup_iff.2 List.nodup_range
  exact ⟨h.len, (List.nodup_append.1 h1).1, fun n hn => List.mem_range.1 (h.perm.mem_iff.1 (List.mem_append_left _ hn))⟩
theorem owns_pcell {w : World} {B g n cap : Nat} {P : List (Int × Sl)} {L : List Nat} (h : w.ownsRow B 44 2 (.slice (some ⟨g, 0, none⟩) n cap) n (pcells (selP P L))) (j : Nat) (hj : j < L.length) (v : Value) (q : Nat) (hq : q < 2) (hv : (oneP P (L.getD j 0))[q]? = some v) : w.cell? ⟨g, j * 2 + q, none⟩ = some v := by
  have h1 := h.cells (g := g) rfl (j * 2 + q) v (by
    have h2 : (pcells ((selP P L).drop j))[q]? = some v := by
      rw [← selP_drop, List.drop_eq_getElem_cons hj]
      have e : L[j] = L.getD j 0 := by rw [List.getD_eq_getElem?_getD, List.getElem?_eq_getElem hj]; rfl
      rw [e]
      show (oneP P (L.getD j 0) ++ pcells (selP P (L.drop (j + 1))))[q]? = some v
      rw [List.getElem?_append_left (by simp [oneP]; omega)]
      exact hv
    rw [pcells_drop, List.getElem?_drop] at h2
    exact h2)
  rwa [add_noneD, Nat.zero_add] at h1
theorem ptake_news {w : World} {B g n cap j : Nat} {P : List (Int × Sl)} {L : List Nat} (h : w.ownsRow B 44 2 (.slice (some ⟨g, 0, none⟩) n cap) n (pcells (selP P L))) : ∀ i u, (pcells (selP P (L.take j)))[i]? = some u → w.cell? ((⟨g, 0, none⟩ : Addr).add i) = some u := fun i u hu => by
  refine h.cells (g := g) rfl i u ?_
  rw [selP_take, pcells_take] at hu
  have hi : i < j * 2 := by have := (List.getElem?_eq_some_iff.1 hu).1; simp at this; omega
  rwa [List.getElem?_take_of_lt hi] at hu
theorem pdrop_news {w : World} {B g n cap j : Nat} {P : List (Int × Sl)} {L : List Nat} (h : w.ownsRow B 44 2 (.slice (some ⟨g, 0, none⟩) n cap) n (pcells (selP P L))) : ∀ i u, (pcells (selP P (L.drop j)))[i]? = some u → w.cell? ((⟨g, j * 2, none⟩ : Addr).add i) = some u := fun i u hu => by
  rw [selP_drop, pcells_drop, List.getElem?_drop] at hu
  have h5 := h.cells (g := g) rfl (j * 2 + i) u hu
  rw [add_noneD] at h5 ⊢
  rwa [Nat.zero_add] at h5
theorem pno_news {w : World} {a : Addr} {j : Nat} {P : List (Int × Sl)} {L : List Nat} (h : L.length ≤ j) : ∀ i u, (pcells (selP P (L.drop j)))[i]? = some u → w.cell? (a.add i) = some u := fun i u hu => by
  rw [List.drop_eq_nil_of_le h] at hu
  cases hu
theorem ChP.next {B : Nat} {w wr w2 w4 : World} {vl vo vo' v4 : Value} {P : List (Int × Sl)} {total q j n4 : Nat} {L O : List Nat} (h : ChP B w wr vl vo P total q L O) (hj : j < L.length) (hown2 : w2.ownsRow B 44 2 vo' (q + 1) (pcells (selP P O) ++ oneP P (L.getD j 0))) (hb2 : Below B w w2)
    (hown4 : w4.ownsRow w2.heap.size 44 2 v4 n4 (pcells (selP P (L.take j)) ++ pcells (selP P (L.drop (j + 1))))) (hb4 : Below w2.heap.size w2 w4) (hB : B ≤ w2.heap.size) : ChP B w w4 v4 vo' P total (q + 1) (L.take j ++ L.drop (j + 1)) (O ++ [L.getD j 0]) := by
  rw [← pcells_append, ← selP_append] at hown4
  rw [selP_snoc] at hown2
  have hn : n4 = (L.take j ++ L.drop (j + 1)).length := by
    have h1 := hown4.1
    rw [pcells_len2, selP_length] at h1
    omega
  rw [hn] at hown4
  refine ⟨⟨hown4.1, hown4.2.imp id fun ⟨g, cap, cur, h3, h4, r⟩ => ⟨g, cap, cur, h3, Nat.le_trans hB h4, r⟩⟩, owns_below hown2 hb4, (perm_step O L j hj).trans h.perm, by simp [h.len], hb2.trans (hb4.mono hB), fun g hg e => ?_⟩
  have h5 := (hown2.lt g hg).2
  have h6 := (hown4.lt g e).1
  omega
/-- the bytes of the pieces of P, where no list of pieces lies -/
def DatR (B : Nat) (w : World) (P : List (Int × Sl)) (D : Nat → List Nat) : Prop := ∀ j, (h : j < P.length) → w.ownsRow B 5 1 (.slice P[j].2.1 P[j].2.2.1 P[j].2.2.2) P[j].2.2.1 (u8s (D j))
theorem DatR.below {B : Nat} {w w' : World} {P : List (Int × Sl)} {D : Nat → List Nat} (h : DatR B w P D) (b : Below w.heap.size w w') : DatR B w' P D := fun j hj => owns_below (h j hj) b
theorem DatR.grown {B B2 s n : Nat} {w w' : World} {P : List (Int × Sl)} {D : Nat → List Nat} {v : Value} {xs : List Value} (h : DatR B w P D) (ho : w.ownsRow B2 44 s v n xs) (hg : w.grownBy w' v.ownBlock) : DatR B w' P D := fun j hj => (h j hj).kept hg (own_types (h j hj) ho (by decide))
theorem DatR.bs {B : Nat} {w : World} {P : List (Int × Sl)} {D : Nat → List Nat} (h : DatR B w P D) (hD : ∀ i x, x ∈ D i → x < 256) (hs : ∀ i, plen' P i ≤ 800000000) : PDat w P D := fun i hi => by
  obtain ⟨a, c, e, _, hc, hb, _⟩ := bs_of_owns (h i hi) (fun x hx => hD i x hx)
  have hnil := nil_ownsJ (h i hi)
  simp only [Value.slice.injEq] at e
  refine ⟨hb, by rw [e.2.2]; exact hc, hnil, ?_⟩
  have := hs i
  rwa [← plen_at P i hi] at this
theorem getD_get (P : List (Int × Sl)) (n : Nat) (h : n < P.length) : P.getD n (0, none, 0, 0) = P[n] := by rw [List.getD_eq_getElem?_getD, List.getElem?_eq_getElem h]; rfl
/-- of chosen pieces the bytes may be read -/
theorem selP_dat {w : World} {P : List (Int × Sl)} {D : Nat → List Nat} (h : PDat w P D) (s : List Nat) (hs : ∀ n ∈ s, n < P.length) : PDat w (selP P s) (fun i => D (s.getD i 0)) := fun i hi => by
  have hi2 : i < s.length := by rwa [selP_length] at hi
  have hm : s.getD i 0 < P.length := by
    rw [List.getD_eq_getElem?_getD, List.getElem?_eq_getElem hi2]
    exact hs _ (List.getElem_mem _)
  rw [selP_get, getD_get _ _ hm]
  exact h _ hm
theorem DatR.alloc {B : Nat} {w : World} {P : List (Int × Sl)} {D : Nat → List Nat} (h : DatR B w P D) (o : Obj) : DatR B (w.alloc o) P D := fun j hj => (h j hj).alloc o
theorem owns_capS {w : World} {B g n cap sz : Nat} {t : TypeId} {xs : List Value} (h : w.ownsRow B t sz (.slice (some ⟨g, 0, none⟩) n cap) n xs) : n ≤ cap := by
  rcases h.2 with ⟨h1, _⟩ | ⟨g', cap', cur, h1, _, _, h2, _⟩
  · cases h1
  · cases h1; exact h2
/-- chosen pieces may be read, whatever becomes of the field -/
theorem selP_held {fb B g k cap : Nat} {w : World} {P : List (Int × Sl)} {D : Nat → List Nat} {s : List Nat} (ho : w.ownsRow B 44 2 (.slice (some ⟨g, 0, none⟩) k cap) k (pcells (selP P s))) (hr : DatR B w P D) (hs : ∀ n ∈ s, n < P.length) (hk : s.length = k) (hB : fb < B) (hD : ∀ i x, x ∈ D i → x < 256) :
    Held fb w (.slice (some ⟨g, 0, none⟩) k cap) (selP P s) (fun i => D (s.getD i 0)) := fun w' kk => by
  have hg : w.grownBy w' (some fb) := ⟨kk.os, kk.tape, kk.output, kk.size, fun q hq hne => kk.block q hq (fun e => hne (congrArg some e))⟩
  have hoff : ∀ {e : TypeId} {s m : Nat} {u : Value} {xs : List Value}, w.ownsRow B e s u m xs → w'.ownsRow B e s u m xs := fun {e s m u xs} ho => ho.kept hg (by
    cases hob : u.ownBlock with
    | none => exact .inl rfl
    | some q =>
      right
      intro e2
      have h5 := (ho.lt q hob).1
      have h6 := Option.some.inj e2
      omega)
  have h2 := ps_of_owns (c := cap) (hoff ho) (show k ≤ (selP P s).length by rw [selP_length]; omega)
  rw [List.take_of_length_le (by rw [selP_length]; omega)] at h2
  refine ⟨h2, fun i hi => ?_⟩
  have hi2 : i < s.length := by rwa [selP_length] at hi
  have hm : s.getD i 0 < P.length := by
    rw [List.getD_eq_getElem?_getD, List.getElem?_eq_getElem hi2]
    exact hs _ (List.getElem_mem _)
  rw [selP_get, getD_get _ _ hm]
  obtain ⟨a, c, e, _, _, hb, _⟩ := bs_of_owns (hoff (hr _ hm)) (fun x hx => hD _ x hx)
  exact hb
theorem fld_keptR {w w' : World} {fb pb : Nat} (h : Fld w fb) (k : Kept pb w w') (hne : fb ≠ pb) : Fld w' fb := h.elim (fun h => .inl ((k.block _ (lt_of_heap h) hne).trans h)) (fun h => .inr ((k.block _ (lt_of_heap h) hne).trans h))
end Go.Proofs.YtehjikogdaclgaaDoor

namespace Go.Proofs.YtehjikogdaclgaaDoor
open Go Go.RowKit
set_option linter.unusedVariables false

theorem alloc_pcS (w : World) : (Instr.alloc 44 true (.tuple #[])).run Tryd.prog w = .ok (.pointer (some ⟨w.heap.size, 0, none⟩)) (w.alloc (.cells #[.int .i64 0, .slice none 0 0] 44)) := by kernel_rfl
theorem step_mkp {ops : Array Oper} {o : Oper} {a : Act} {w : World} {K : Act → World → Prop} {Q : Exit → Act → World → Prop} {E : Prop} (hgd : o.guard = none) (ho : o.op = .alloc 44)
    (h : ∀ mb w', mb = w.heap.size → w'.heap[mb]? = some (.cells #[.int .i64 0, .slice none 0 0] 44 (0, 0)) → Below w.heap.size w w' → mb < w'.heap.size → K (a.put o.dst (.pointer (some ⟨mb, 0, none⟩))) w') : if Region.wanted o (yielded ops a.tmps) = true then Oper.wp Tryd.prog o a w K Q else E := by
  have h1 := alloc_pcS w
  refine step_value (P := Tryd.prog) hgd (v := .pointer (some ⟨w.heap.size, 0, none⟩)) (w' := w.alloc (.cells #[.int .i64 0, .slice none 0 0] 44)) ?_ (h w.heap.size _ rfl (heap_new _ _) ((Below.refl _ _).alloc (Nat.le_refl _) _) (by simp))
  unfold execOp
  simp only [ho]
  simp [h1]
/-- bytes do not lie in a piece's block -/
theorem bs_keptP {w w' : World} {v : Value} {l : List Nat} {pb : Nat} {x : Int} {y : Option Addr} {n c : Nat} {T : TypeId} (h : Bs w v l) (hp : w.heap[pb]? = some (.cells #[.int .i64 x, .slice y n c] T (0, 0))) (k : Kept pb w w') : Bs w' v l := by
  obtain ⟨a, c', h1, h2, h3⟩ := h
  refine ⟨a, c', h1, h2, fun hl => ?_⟩
  obtain ⟨b, o, ha, hc⟩ := h3 hl
  refine ⟨b, o, ha, fun i hi => ?_⟩
  have hci := hc i hi
  have hne : b ≠ pb := by
    rintro rfl
    have h5 := cell_of_heap hp (o + i)
    rw [hci] at h5
    rcases ho : o + i with _ | _ | j
    · rw [ho] at h5; cases h5
    · rw [ho] at h5; cases h5
    · rw [ho] at h5; simp at h5
  exact (World.cell?_of_block (a := ⟨b, o + i, none⟩) (k.block b (World.block_lt_of_cell? _ _ hci) hne)).trans hci
theorem pieceL_fn {qs ps : List (Int × Sl)} (f1 : pidx qs = pidx ps) (f2 : plen' qs = plen' ps) (k : Int) (D : Nat → List Nat) (I : Int) : pieceL k qs D I = pieceL k ps D I := by
  unfold pieceL
  rw [places_fn f1, f2]
/-- a copy's answers are those of the original -/
theorem rgn_fns {w wr : World} {v : Value} {n : Nat} {ps qs : List (Int × Sl)} {D : Nat → List Nat} (h : MineI w wr v n ps qs D) (hn : n = ps.length) (k nn t s : Int) (m : Nat) (Dm : List (List Nat)) (I : Int) :
    regE k nn t s m Dm qs D n I = regE k nn t s m Dm ps D n I ∧ regI k nn t s m Dm qs D n I = regI k nn t s m Dm ps D n I ∧ regL k nn t s m Dm qs D n I = regL k nn t s m Dm ps D n I := by
  obtain ⟨f1, f2⟩ := h.fns hn
  have f3 := pieceL_fn f1 f2 k D I
  have f4 : regE k nn t s m Dm qs D n I = regE k nn t s m Dm ps D n I := by unfold regE; rw [f1, f3]
  exact ⟨f4, by unfold regI; rw [f4], by unfold regL; rw [f4, f3]⟩
theorem piece_allS (x : Int) (a : Option Addr) (n c : Nat) : (#[.int .i64 x, .slice a n c] : Array Value).all (·.oneCell') = true := by
  rw [Array.all_eq_true]
  intro i hi
  match i, hi with
  | 0, _ => rfl
  | 1, _ => rfl
end Go.Proofs.YtehjikogdaclgaaDoor

namespace Go.Proofs.YtehjikogdaclgaaDoor
open Go Go.RowKit
set_option linter.unusedVariables false

theorem run_build0P (w : World) : (Instr.buildSlice 28 0 #[]).run Tryd.prog w = .ok (.slice (some ⟨w.heap.size, 0, none⟩) 0 0) (w.alloc (.cells #[] 44)) := by kernel_rfl
theorem step_build0P {ops : Array Oper} {o : Oper} {a : Act} {w : World} {K : Act → World → Prop} {Q : Exit → Act → World → Prop} {E : Prop} (hgd : o.guard = none) (ho : o.op = .buildSlice 28 0 #[])
    (h : ∀ g w', g = w.heap.size → w'.heap[g]? = some (.cells #[] 44 (0, 0)) → Below w.heap.size w w' → g < w'.heap.size → K (a.put o.dst (.slice (some ⟨g, 0, none⟩) 0 0)) w') : if Region.wanted o (yielded ops a.tmps) = true then Oper.wp Tryd.prog o a w K Q else E := by
  refine step_value (P := Tryd.prog) hgd (v := .slice (some ⟨w.heap.size, 0, none⟩) 0 0) (w' := w.alloc (.cells #[] 44)) ?_ (h w.heap.size _ rfl (heap_new _ _) ((Below.refl _ _).alloc (Nat.le_refl _) _) (by simp))
  have h1 := run_build0P w
  unfold execOp
  simp only [ho]
  simp [h1]
theorem uptoP (g n c k : Nat) (h : k ≤ c) (w' : World) : (Instr.sliceAt 28 (.slice (some ⟨g, 0, none⟩) n c) none (some (.int .i64 (k : Int))) none).run Tryd.prog w' = .ok (.slice (some ⟨g, 0, none⟩) k c) w' := by
  have u1 : (k : Int) ≤ (c : Int) := by omega
  have u2 : (0 : Int) ≤ (k : Int) := by omega
  simp [go_sem, Tryd.underlying28, u1, u2]
theorem fromP (g n c k : Nat) (h : k ≤ n) (hc : n ≤ c) (w' : World) : (Instr.sliceAt 28 (.slice (some ⟨g, 0, none⟩) n c) (some (.int .i64 (k : Int))) none none).run Tryd.prog w' = .ok (.slice (some (if c = k then (⟨g, 0, none⟩ : Addr) else ⟨g, k * 2, none⟩)) (n - k) (c - k)) w' := by
  have u1 : (k : Int) ≤ (n : Int) := by omega
  have u2 : (0 : Int) ≤ (k : Int) := by omega
  by_cases hk : c = k
  · simp [go_sem, Tryd.underlying28, Tryd.sizeOf44, u1, u2, hk]
  · simp [go_sem, Tryd.underlying28, Tryd.sizeOf44, u1, u2, hk]
/-- a load, as an operation -/
theorem run_load_opB {P : Program} {ev : Operand → Value} {o : Oper} {ty : TypeId} {x : Operand} {w : World} {v : Value} {ad : Addr} (h : (loadVar ty ad).run P w = .ok v w) (ho : o.op = .load ty x := by rfl) (hx : ev x = .pointer (some ad) := by rfl) :
    (execOp ev o).run P w = .ok (.value v) w := by
  unfold execOp
  simp only [ho, hx, Instr.loadAt, Instr.sureAddr, Sem.run_bind, Sem.run_pure, Result.andThen_ok, h]
/-- a part of a slice, as an operation -/
theorem run_slice_opB {P : Program} {ev : Operand → Value} {o : Oper} {ty : TypeId} {x : Operand} {lo hi mx : Option Operand} {w : World} {v xv : Value} {lv hv mv : Option Value} (h : (Instr.sliceAt ty xv lv hv mv).run P w = .ok v w) (ho : o.op = .slice ty x lo hi mx := by rfl) (hx : ev x = xv := by rfl) (hl : lo.map ev = lv := by rfl) (hh : hi.map ev = hv := by rfl) (hm : mx.map ev = mv := by rfl) :
    (execOp ev o).run P w = .ok (.value v) w := by
  subst hx hl hh hm
  unfold execOp
  simp only [ho]
  simp [h]
end Go.Proofs.YtehjikogdaclgaaDoor
