/-
  Rebuild and the reference's Again: one piece from others; the errors.
-/
import Derived.Test.YtbajekiliplclaaDec
import Derived.Test.YtbajekiliplclaaJoin
namespace Go.Proofs.Ytbajekiliplclaa
open Go Go.RowKit
set_option linter.unusedVariables false

/-- a piece and an error -/
def PieceRes (i : Int) (m : Nat) (x : Int) (L : List Nat) (e : Ending) (w' : World) : Prop := ∃ ra rc, e = .returned (.tuple #[.agg #[.int .i64 i, .slice ra m rc], .int .i64 x]) ∧ Bs w' (.slice ra m rc) L
theorem known_endR {W w w' : World} (h : Below W.heap.size W w) (h2 : Below w.heap.size w w') : Below W.heap.size W w' := h.trans (h2.mono h.size)
theorem pieceRes_none (x : Int) (w : World) : PieceRes 0 0 x [] (.returned (.tuple #[.agg #[.int .i64 0, .slice none 0 0], .int .i64 x])) w := ⟨_, _, rfl, bs_nil _⟩

theorem Rebuild_size (fb : Nat) (k t i : Int) (a : Option Addr) (n c : Nat) (h : ¬ (1 ≤ k ∧ k ≤ t ∧ t ≤ 255 ∧ 0 ≤ i ∧ i < t)) (w : World) :
    Calls Try.prog 38 #[.pointer (some ⟨fb, 0, none⟩), .int .i64 k, .int .i64 t, .slice a n c, .int .i64 i] w fun e w' => PieceRes 0 0 2 [] e w' ∧ Below w.heap.size w w' := by
  have hnot : ∀ (x : Bool) (w : World), (Op.unary .not (.bool x)).run Try.prog w = .ok (.bool (!x)) w := fun _ _ => rfl
  have hb0 : Below w.heap.size w (w.alloc (Obj.cells #[.int .i64 0, .slice none 0 0] 36)) := (Below.refl _ _).alloc (Nat.le_refl _) _
  by_cases h1 : 1 ≤ k ∧ k ≤ t ∧ t ≤ 255
  · obtain ⟨a1, a2, a3⟩ := h1
    by_cases h2 : i < 0
    · clear h
      go_enter Try.func38, Try.ntmps38
      go_wp2_with fail
      refine (valid_yes k t a1 a2 a3 _).mono ?_
      rintro e w' ⟨rfl, rfl⟩
      go_wp2
      exact bodyPost_ret (v := .tuple #[.agg #[.int .i64 0, .slice none 0 0], .int .i64 2]) (by simp [results, Try.results38, go_sem]) rfl ⟨pieceRes_none _ _, hb0⟩
    · have h3 : t ≤ i := by omega
      clear h
      go_enter Try.func38, Try.ntmps38
      go_wp2_with fail
      refine (valid_yes k t a1 a2 a3 _).mono ?_
      rintro e w' ⟨rfl, rfl⟩
      go_wp2
      exact bodyPost_ret (v := .tuple #[.agg #[.int .i64 0, .slice none 0 0], .int .i64 2]) (by simp [results, Try.results38, go_sem]) rfl ⟨pieceRes_none _ _, hb0⟩
  · have H := hid h1
    clear h h1
    go_enter Try.func38, Try.ntmps38
    go_wp2_with fail
    refine (valid_no k t H.out _).mono ?_
    rintro e w' ⟨rfl, rfl⟩
    go_wp2
    exact bodyPost_ret (v := .tuple #[.agg #[.int .i64 0, .slice none 0 0], .int .i64 2]) (by simp [results, Try.results38, go_sem]) rfl ⟨pieceRes_none _ _, hb0⟩
theorem Again_size (k t i : Int) (a : Option Addr) (n c : Nat) (h : ¬ (1 ≤ k ∧ k ≤ t ∧ t ≤ 255 ∧ 0 ≤ i ∧ i < t)) (w : World) :
    Calls Try.prog 39 #[.int .i64 k, .int .i64 t, .slice a n c, .int .i64 i] w fun e w' => PieceRes 0 0 2 [] e w' ∧ Below w.heap.size w w' := by
  have hnot : ∀ (x : Bool) (w : World), (Op.unary .not (.bool x)).run Try.prog w = .ok (.bool (!x)) w := fun _ _ => rfl
  have hb0 : Below w.heap.size w (w.alloc (Obj.cells #[.int .i64 0, .slice none 0 0] 36)) := (Below.refl _ _).alloc (Nat.le_refl _) _
  by_cases h1 : 1 ≤ k ∧ k ≤ t ∧ t ≤ 255
  · obtain ⟨a1, a2, a3⟩ := h1
    by_cases h2 : i < 0
    · clear h
      go_enter Try.func39, Try.ntmps39
      go_wp2_with fail
      refine (rsizes_yes k t a1 a2 a3 _).mono ?_
      rintro e w' ⟨rfl, rfl⟩
      go_wp2
      exact bodyPost_ret (v := .tuple #[.agg #[.int .i64 0, .slice none 0 0], .int .i64 2]) (by simp [results, Try.results39, go_sem]) rfl ⟨pieceRes_none _ _, hb0⟩
    · have h3 : t ≤ i := by omega
      clear h
      go_enter Try.func39, Try.ntmps39
      go_wp2_with fail
      refine (rsizes_yes k t a1 a2 a3 _).mono ?_
      rintro e w' ⟨rfl, rfl⟩
      go_wp2
      exact bodyPost_ret (v := .tuple #[.agg #[.int .i64 0, .slice none 0 0], .int .i64 2]) (by simp [results, Try.results39, go_sem]) rfl ⟨pieceRes_none _ _, hb0⟩
  · have H := hid h1
    clear h h1
    go_enter Try.func39, Try.ntmps39
    go_wp2_with fail
    refine (rsizes_no k t H.out _).mono ?_
    rintro e w' ⟨rfl, rfl⟩
    go_wp2
    exact bodyPost_ret (v := .tuple #[.agg #[.int .i64 0, .slice none 0 0], .int .i64 2]) (by simp [results, Try.results39, go_sem]) rfl ⟨pieceRes_none _ _, hb0⟩

theorem piece_free {w w' : World} {b B : Nat} {x y : Value} {t : TypeId} (h : w.heap[b]? = some (.cells #[x, y] t (0, 0))) (hb : Below B w w') (hB : b < B) : w'.cell? ⟨b, 0, none⟩ = some x ∧ w'.cell? ⟨b, 1, none⟩ = some y ∧ w'.frozen? ⟨b, 0, none⟩ = false ∧ w'.frozen? ⟨b, 1, none⟩ = false := by
  have h2 := (hb.block b hB).trans h
  exact ⟨cell_of_heap h2 0, cell_of_heap h2 1, free_of_heap h2 0, free_of_heap h2 1⟩

theorem Rebuild_err (fb k t i : Nat) (a : Option Addr) (n c : Nat) (ps : List (Int × Sl)) (h1 : 1 ≤ k) (h2 : k ≤ t) (h3 : t ≤ 255) (h4 : i < t) (hn : n ≤ 100000) (w : World) (hp : Ps w (.slice a n c) ps) (x : Int)
    (hx : chkAll k t (pidx ps) (alikeE ps) n = x) (hne : x ≠ 0) :
    Calls Try.prog 38 #[.pointer (some ⟨fb, 0, none⟩), .int .i64 k, .int .i64 t, .slice a n c, .int .i64 i] w fun e w' => PieceRes 0 0 x [] e w' ∧ Below w.heap.size w w' := by
  have hnot : ∀ (x : Bool) (w : World), (Op.unary .not (.bool x)).run Try.prog w = .ok (.bool (!x)) w := fun _ _ => rfl
  have bn : (x != 0) = true := by simpa using hne
  have b1 : decide ((i : Int) < 0) = false := by simp
  have b2 : decide (t ≤ i) = false := by simp; omega
  have HP := hid hp
  have hc := fun w0 h0 => checkAlike_any (k : Int) (t : Int) a n c ps w0 (by omega) (HP.out.below h0) hn
  rw [hx] at hc
  have HC := hid hc
  have hb0 : Below w.heap.size w (w.alloc (Obj.cells #[.int .i64 0, .slice none 0 0] 36)) := (Below.refl _ _).alloc (Nat.le_refl _) _
  clear hp hne hc hx
  go_enter Try.func38, Try.ntmps38
  go_wp2_with fail
  refine (valid_yes k t (by omega) (by omega) (by omega) _).mono ?_
  rintro e w' ⟨rfl, rfl⟩
  go_wp2_with fail
  refine (HC.out _ hb0).mono ?_
  rintro e w5 ⟨rfl, hb⟩
  obtain ⟨d0, d1, f0, f1⟩ := piece_free (heap_new w (Obj.cells #[.int .i64 0, .slice none 0 0] 36)) hb (by simp)
  have hbe := known_endR hb0 hb
  go_wp2
  exact bodyPost_ret (v := .tuple #[.agg #[.int .i64 0, .slice none 0 0], .int .i64 x]) (by simp [results, Try.results38, go_sem, d0, d1]) rfl ⟨pieceRes_none _ _, by first | exact hbe | exact (hbe.setCell (by simp) _).setCell (by simp) _⟩
theorem Again_err (k t i : Nat) (a : Option Addr) (n c : Nat) (ps : List (Int × Sl)) (h1 : 1 ≤ k) (h2 : k ≤ t) (h3 : t ≤ 255) (h4 : i < t) (hn : n ≤ 100000) (w : World) (hp : Ps w (.slice a n c) ps) (x : Int)
    (hx : chkAll k t (pidx ps) (alikeE ps) n = x) (hne : x ≠ 0) :
    Calls Try.prog 39 #[.int .i64 k, .int .i64 t, .slice a n c, .int .i64 i] w fun e w' => PieceRes 0 0 x [] e w' ∧ Below w.heap.size w w' := by
  have hnot : ∀ (x : Bool) (w : World), (Op.unary .not (.bool x)).run Try.prog w = .ok (.bool (!x)) w := fun _ _ => rfl
  have bn : (x != 0) = true := by simpa using hne
  have b1 : decide ((i : Int) < 0) = false := by simp
  have b2 : decide (t ≤ i) = false := by simp; omega
  have HP := hid hp
  have hc := fun w0 h0 => refcheck_alike (k : Int) (t : Int) a n c ps w0 (HP.out.below h0) hn
  rw [hx] at hc
  have HC := hid hc
  have hb0 : Below w.heap.size w (w.alloc (Obj.cells #[.int .i64 0, .slice none 0 0] 36)) := (Below.refl _ _).alloc (Nat.le_refl _) _
  clear hp hne hc hx
  go_enter Try.func39, Try.ntmps39
  go_wp2_with fail
  refine (rsizes_yes k t (by omega) (by omega) (by omega) _).mono ?_
  rintro e w' ⟨rfl, rfl⟩
  go_wp2_with fail
  refine (HC.out _ hb0).mono ?_
  rintro e w5 ⟨rfl, hb⟩
  obtain ⟨d0, d1, f0, f1⟩ := piece_free (heap_new w (Obj.cells #[.int .i64 0, .slice none 0 0] 36)) hb (by simp)
  have hbe := known_endR hb0 hb
  go_wp2
  exact bodyPost_ret (v := .tuple #[.agg #[.int .i64 0, .slice none 0 0], .int .i64 x]) (by simp [results, Try.results39, go_sem, d0, d1]) rfl ⟨pieceRes_none _ _, by first | exact hbe | exact (hbe.setCell (by simp) _).setCell (by simp) _⟩

theorem Bs.set_offR {w : World} {v : Value} {l : List Nat} (h : Bs w v l) {b : Nat} (ho : Off b v) (i : Nat) (u : Value) : Bs (w.setCell ⟨b, i, none⟩ u) v l :=
  h.kept (Kept.setCell (Kept.refl b w) rfl u) ho
theorem alike_fit {k t : Int} {ps : List (Int × Sl)} {n : Nat} (h : Fit k t (pidx ps) (alikeE ps) n) : ∀ i, i < n → plen' ps i = plen' ps 0 ∧ plen' ps i ≤ 8192 := fun i hi => by
  have h5 := h.ok i hi
  unfold alikeE alikeL at h5
  by_cases e : 8192 < plen' ps i
  · rw [if_pos e] at h5; omega
  · rw [if_neg e] at h5
    by_cases e2 : plen' ps i = plen' ps 0
    · exact ⟨e2, by omega⟩
    · rw [if_neg e2] at h5; omega
theorem mixL_bs {w : World} {ob : Nat} {D : List (List Nat)} {ws : List Nat} {L k : Nat} (h : Own w ob (mixL D ws L k)) (hw : ∀ i, ws.getD i 0 < 256) : Bs w (.slice (some ⟨ob, 0, none⟩) L L) (mixL D ws L k) := by
  have h5 := h.bs (mixL_lt D ws L k hw) L
  rwa [mixL_length] at h5

set_option maxRecDepth 100000 in
set_option maxHeartbeats 2000000 in
theorem Again_ok (k t x : Nat) (a : Option Addr) (n c : Nat) (ps : List (Int × Sl)) (D : Nat → List Nat) (h1 : 1 ≤ k) (h2 : k ≤ t) (h3 : t ≤ 255) (h4 : x < t) (hn : n ≤ 100000) (hnc : n ≤ c) (w : World) (hp : Ps w (.slice a n c) ps)
    (hD : ∀ i, (h : i < ps.length) → Bs w (.slice ps[i].2.1 ps[i].2.2.1 ps[i].2.2.2) (D i)) (hz : chkAll k t (pidx ps) (alikeE ps) n = 0) :
    Calls Try.prog 39 #[.int .i64 k, .int .i64 t, .slice a n c, .int .i64 x] w fun e w' => PieceRes x (plen' ps 0) 0 (mixL ((List.range k).map D) (wts (places ps k) (scales (places ps k)) x) (plen' ps 0) k) e w' ∧ Below w.heap.size w w' := by
  have hnot : ∀ (x : Bool) (w : World), (Op.unary .not (.bool x)).run Try.prog w = .ok (.bool (!x)) w := fun _ _ => rfl
  have hfit := fit_of hz
  have hkn : k ≤ n := by have := hfit.few; omega
  have hnp : n = ps.length := by obtain ⟨_, _, h, _⟩ := hp; simp at h; exact h.2.1
  obtain ⟨b, o, rfl⟩ : ∃ b o, a = some ⟨b, o, none⟩ := by
    obtain ⟨a', c', e1, e3⟩ := hp
    obtain ⟨b, o, ha, _⟩ := e3 (by intro e; rw [e] at hnp; simp at hnp; omega)
    simp at e1
    exact ⟨b, o, e1.1.trans ha⟩
  have b1 : decide ((x : Int) < 0) = false := by simp
  have b2 : decide (t ≤ x) = false := by simp; omega
  have HP := hid hp
  have hc := fun w0 h0 => refcheck_alike (k : Int) (t : Int) (some ⟨b, o, none⟩) n c ps w0 (HP.out.below h0) hn
  rw [hz] at hc
  have HC := hid hc
  have hal := alike_fit hfit
  have hLb := (hal 0 (by omega)).2
  have hb0 : Below w.heap.size w (w.alloc (Obj.cells #[.int .i64 0, .slice none 0 0] 36)) := (Below.refl _ _).alloc (Nat.le_refl _) _
  have HV := hid (fun w0 (h0 : Below w.heap.size w w0) => value_any k n b o c (plen' ps 0) x ps D w0 h1 (by omega) hkn hnc (by omega) (by omega) (HP.out.below h0) (fun i h => (hD i h).below h0) (fun i h => (hal i (by omega)).1) (fun i h => ⟨hfit.lo i (by omega), by have := hfit.hi i (by omega); omega⟩) (places_nodup hfit))
  have hx2 : x < 256 := by omega
  clear hp hD hc hal hfit hnp hz
  generalize plen' ps 0 = L at *
  go_enter Try.func39, Try.ntmps39
  go_wp2_with fail
  refine (rsizes_yes k t (by omega) (by omega) (by omega) _).mono ?_
  rintro e w' ⟨rfl, rfl⟩
  go_wp2_with fail
  refine (HC.out _ hb0).mono ?_
  rintro e w5 ⟨rfl, hb⟩
  have hbe := known_endR hb0 hb
  have HX := hid (heap_new w (Obj.cells #[.int .i64 0, .slice none 0 0] 36))
  go_wp2_with fail
  refine (HV.out _ hbe).mono ?_
  rintro e w6 ⟨oc, hoc, rfl, ho, hb6⟩
  obtain ⟨d0, d1, f0, f1⟩ := piece_free HX.out (known_endR hb hb6) (by simp)
  have hbf := known_endR hbe hb6
  have hsz := hb.size
  rw [World.size_alloc] at hsz
  have hbs := mixL_bs ho (fun i => getD_lt (wts_lt _ _ _) i)
  have HBS := hid (hbs.set_offR (b := w.heap.size) (show oc ≠ w.heap.size by omega) 0 (.int .i64 x))
  have HB2 := hid (HBS.out.set_offR (b := w.heap.size) (show oc ≠ w.heap.size by omega) 1 (.slice (some ⟨oc, 0, none⟩) L L))
  clear hbs
  go_wp2
  exact bodyPost_ret (v := .tuple #[.agg #[.int .i64 x, .slice (some ⟨oc, 0, none⟩) L L], .int .i64 0]) (by simp [results, Try.results39, go_sem, d0, d1]) rfl ⟨⟨_, _, rfl, HB2.out⟩, (hbf.setCell (by simp) _).setCell (by simp) _⟩

set_option maxRecDepth 100000 in
set_option maxHeartbeats 4000000 in
theorem Rebuild_ok (fb k t x : Nat) (a : Option Addr) (n c : Nat) (ps : List (Int × Sl)) (D : Nat → List Nat) (h1 : 1 ≤ k) (h2 : k ≤ t) (h3 : t ≤ 255) (h4 : x < t) (hn : n ≤ 100000) (hnc : n ≤ c) (w : World) (hF : Fld w fb) (hH : Held fb w (.slice a n c) ps D)
    (hz : chkAll k t (pidx ps) (alikeE ps) n = 0) :
    Calls Try.prog 38 #[.pointer (some ⟨fb, 0, none⟩), .int .i64 k, .int .i64 t, .slice a n c, .int .i64 x] w fun e w' => PieceRes x (plen' ps 0) 0 (mixL ((List.range k).map D) (wts (places ps k) (scales (places ps k)) x) (plen' ps 0) k) e w' ∧ Built w' fb ∧ Kept fb w w' := by
  have hnot : ∀ (x : Bool) (w : World), (Op.unary .not (.bool x)).run Try.prog w = .ok (.bool (!x)) w := fun _ _ => rfl
  have hfit := fit_of hz
  have hkn : k ≤ n := by have := hfit.few; omega
  have hnp := hH.len
  obtain ⟨b, o, rfl⟩ : ∃ b o, a = some ⟨b, o, none⟩ := by
    obtain ⟨a', c', e1, e3⟩ := hH.now.1
    obtain ⟨b, o, ha, _⟩ := e3 (by intro e; rw [e] at hnp; simp at hnp; omega)
    simp at e1
    exact ⟨b, o, e1.1.trans ha⟩
  have b1 : decide ((x : Int) < 0) = false := by simp
  have b2 : decide (t ≤ x) = false := by simp; omega
  have hc := checkAlike_any (k : Int) (t : Int) (some ⟨b, o, none⟩) n c ps
  rw [hz] at hc
  have HC := hid hc
  have hal := alike_fit hfit
  have HLENS := hid (fun i h => (hal i h).1)
  have hLb := (hal 0 (by omega)).2
  have HFIT := hid hfit
  have HN := hid hnp
  have HF := hid hF
  have HH := hid hH
  have hfb0 := hF.lt
  clear hF hH hz hc hnp hal hfit
  generalize hL : plen' ps 0 = L at *
  clear hL
  go_enter Try.func38, Try.ntmps38
  go_wp2_with fail
  refine (valid_yes k t (by omega) (by omega) (by omega) _).mono ?_
  rintro e w' ⟨rfl, rfl⟩
  have hb1 : Below w.heap.size w (w.alloc (Obj.cells #[.int .i64 0, .slice none 0 0] 36)) := (Below.refl _ _).alloc (Nat.le_refl _) _
  have HX := hid (heap_new w (Obj.cells #[.int .i64 0, .slice none 0 0] 36))
  go_wp2_with fail
  refine (HC.out _ (by omega) (HH.out.now.1.below hb1) hn).mono ?_
  rintro e w2 ⟨rfl, hb2⟩
  have hb12 : Below w.heap.size w w2 := hb1.trans (hb2.mono (by simp))
  have HB12 := hid hb12
  have hF2 : Fld w2 fb := HF.out.elim (fun h => .inl ((hb12.block _ hfb0).trans h)) (fun h => .inr ((hb12.block _ hfb0).trans h))
  have HX2 := hid ((hb2.block w.heap.size (by simp)).trans HX.out)
  clear hb1 hb2 hb12
  go_wp2_with fail
  refine (build_any fb _ hF2).mono ?_
  rintro e w3 ⟨rfl, hB3, hk3⟩
  have hK3 : Kept fb w w3 := (Kept.of_below HB12.out).trans hk3
  have HX3 := hid ((hk3.block w.heap.size (lt_of_heap HX2.out) (by omega)).trans HX2.out)
  have HK3 := hid hK3
  have HH3 := hid (HH.out.step hK3)
  have HB3 := hid hB3
  clear hK3 hk3 hF2 hB3
  have hps3 := HH3.out.now.1.take hkn
  have HPS3 := hid hps3
  have hkp : k = (ps.take k).length := by rw [List.length_take, ← HN.out, Nat.min_eq_left hkn]
  have HKP := hid hkp
  have hcc : k ≤ c := by omega
  clear hps3 hkp
  have hpl := places_length ps k
  have HPL := hid hpl
  have hnum : ∀ i, (h : i < (ps.take k).length) → (ps.take k)[i].1 = (((places ps k).getD i 0 : Nat) : Int) := fun i h => by
    rw [← HKP.out] at h
    have h5 := HFIT.out.lo i (by omega)
    rw [List.getElem_take, pidx_at, places_getD ps k i h]
    omega
  have HNUM := hid hnum
  have HLT := hid (places_lt (k := k) HFIT.out (by omega))
  have HND := hid (places_nodup (k := k) HFIT.out)
  clear hnum hpl
  go_wp2_with fail
  refine (newSource_n fb b o c k (ps.take k) (places ps k) HKP.out _ HB3.out HPS3.out (by omega) (by omega) (by rw [HPL.out, ← HKP.out]) HNUM.out HLT.out HND.out).mono ?_
  rintro e w4 ⟨pb, sb, hpb, hsb, rfl, hopb, hosb, hb4⟩
  have hkk4 : Kept fb w w4 := HK3.out.trans (Kept.of_below hb4)
  have hdat : ∀ i, (h : i < (ps.take k).length) → Bs w4 (.slice (ps.take k)[i].2.1 (ps.take k)[i].2.2.1 (ps.take k)[i].2.2.2) (((List.range k).map D).getD i []) ∧ (((List.range k).map D).getD i []).length = L := fun i h => by
    have h' := h
    rw [← HKP.out] at h'
    have hi2 : i < ps.length := by rw [← HN.out]; omega
    rw [rmap_getD _ _ _ h']
    simp only [List.getElem_take]
    exact ⟨(HH.out w4 hkk4).2 i hi2, by rw [HH.out.data i hi2]; exact HLENS.out i (by omega)⟩
  have HDAT := hid hdat
  have hpl : Bs w4 (.slice (some ⟨pb, 0, none⟩) k k) (places ps k) := by
    have h5 := hopb.bs HLT.out k
    rwa [HPL.out] at h5
  have hsl : Bs w4 (.slice (some ⟨sb, 0, none⟩) k k) (scales (places ps k)) := by
    have h5 := hosb.bs (scales_lt _) k
    rwa [scales_length, HPL.out] at h5
  have HX4 := hid ((hb4.block w.heap.size (lt_of_heap HX3.out)).trans HX3.out)
  have HB4 := hid (HB3.out.below hb4 HB3.out.lt)
  have HK4 := hid hkk4
  clear hopb hosb hdat hb4 hkk4
  go_wp2_with fail
  refine (piece_any fb b o c pb 0 k sb 0 k k L x (ps.take k) (places ps k) ((List.range k).map D) _ HB4.out ((HH.out w4 HK4.out).1.take hkn) (by omega) (by omega) HKP.out HPL.out.symm HDAT.out hpl hsl (by omega) (by omega)).mono ?_
  rintro e w6 ⟨oc, hoc, rfl, ho, hb6⟩
  have hs4 := HK4.out.size
  obtain ⟨d0, d1, f0, f1⟩ := piece_free HX4.out hb6 (lt_of_heap HX4.out)
  have hox : oc ≠ w.heap.size := by have := lt_of_heap HX4.out; omega
  have hbs := mixL_bs ho (fun i => getD_lt (wts_lt _ _ _) i)
  have HBS := hid (hbs.set_offR (b := w.heap.size) (show oc ≠ w.heap.size from hox) 0 (.int .i64 x))
  have HB2 := hid (HBS.out.set_offR (b := w.heap.size) (show oc ≠ w.heap.size from hox) 1 (.slice (some ⟨oc, 0, none⟩) L L))
  have HB6 := hid (HB4.out.below hb6 HB4.out.lt)
  have HK6 := hid (HK4.out.trans (Kept.of_below hb6))
  clear hbs hb6 hpl hsl
  go_wp2
  exact bodyPost_ret (v := .tuple #[.agg #[.int .i64 x, .slice (some ⟨oc, 0, none⟩) L L], .int .i64 0]) (by simp [results, Try.results38, go_sem, d0, d1]) rfl ⟨⟨_, _, rfl, HB2.out⟩, (HB6.out.setCell (by simp; omega) _).setCell (by simp; omega) _, (HK6.out.setNew (by simp) _).setNew (by simp) _⟩
end Go.Proofs.Ytbajekiliplclaa
