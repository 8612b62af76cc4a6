/-
  Rebuild and the reference's Again: one piece from others; the errors. · Regenerate: the piece that others determine; what it answers. · Chosen pieces of an object: what Assemble and Regenerate answer to them. · mine: a copy of a list of pieces.
-/
import Derived.Test.YtehjikogdaclgaaDoorBb15
import Derived.Test.YtehjikogdaclgaaDoorBb16
import Derived.Test.YtehjikogdaclgaaDoorBb9
import Derived.Test.YtehjikogdaclgaaDoorBb14
import Derived.Test.YtehjikogdaclgaaDoorBb10
namespace Go.Proofs.YtehjikogdaclgaaDoor
open Go Go.RowKit
set_option linter.unusedVariables false

/-- a piece and an error -/
def PieceRes (i : Int) (m : Nat) (x : Int) (L : List Nat) (e : Ending) (w' : World) : Prop := ∃ ra rc, e = .returned (.tuple #[.agg #[.int .i64 i, .slice ra m rc], .int .i64 x]) ∧ Bs w' (.slice ra m rc) L
theorem known_endR {W w w' : World} (h : Below W.heap.size W w) (h2 : Below w.heap.size w w') : Below W.heap.size W w' := h.trans (h2.mono h.size)
/-- a piece whose bytes lie in a block -/
def PieceResN (B : Nat) (i : Int) (m : Nat) (L : List Nat) (e : Ending) (w' : World) : Prop := ∃ oc, B ≤ oc ∧ e = .returned (.tuple #[.agg #[.int .i64 i, .slice (some ⟨oc, 0, none⟩) m m], .int .i64 0]) ∧ Bs w' (.slice (some ⟨oc, 0, none⟩) m m) L
theorem PieceResN.res {B : Nat} {i : Int} {m : Nat} {L : List Nat} {e : Ending} {w' : World} (h : PieceResN B i m L e w') : PieceRes i m 0 L e w' := by
  obtain ⟨oc, _, h1, h2⟩ := h
  exact ⟨_, _, h1, h2⟩
theorem pieceRes_none (x : Int) (w : World) : PieceRes 0 0 x [] (.returned (.tuple #[.agg #[.int .i64 0, .slice none 0 0], .int .i64 x])) w := ⟨_, _, rfl, bs_nil _⟩

theorem Rebuild_size (fb : Nat) (k t i : Int) (a : Option Addr) (n c : Nat) (h : ¬ (1 ≤ k ∧ k ≤ t ∧ t ≤ 255 ∧ 0 ≤ i ∧ i < t)) (w : World) :
    Calls Tryd.prog 32 #[.pointer (some ⟨fb, 0, none⟩), .int .i64 k, .int .i64 t, .slice a n c, .int .i64 i] w fun e w' => PieceRes 0 0 2 [] e w' ∧ Below w.heap.size w w' := by
  have hnot : ∀ (x : Bool) (w : World), (Op.unary .not (.bool x)).run Tryd.prog w = .ok (.bool (!x)) w := fun _ _ => rfl
  have hb0 : Below w.heap.size w (w.alloc (Obj.cells #[.int .i64 0, .slice none 0 0] 44)) := (Below.refl _ _).alloc (Nat.le_refl _) _
  by_cases h1 : 1 ≤ k ∧ k ≤ t ∧ t ≤ 255
  · obtain ⟨a1, a2, a3⟩ := h1
    by_cases h2 : i < 0
    · clear h
      go_enter Tryd.func32, Tryd.ntmps32
      go_wp2_with fail
      refine (valid_yes k t a1 a2 a3 _).mono ?_
      rintro e w' ⟨rfl, rfl⟩
      go_wp2
      exact bodyPost_ret (v := .tuple #[.agg #[.int .i64 0, .slice none 0 0], .int .i64 2]) (by simp [results, Tryd.results32, go_sem]) rfl ⟨pieceRes_none _ _, hb0⟩
    · have h3 : t ≤ i := by omega
      clear h
      go_enter Tryd.func32, Tryd.ntmps32
      go_wp2_with fail
      refine (valid_yes k t a1 a2 a3 _).mono ?_
      rintro e w' ⟨rfl, rfl⟩
      go_wp2
      exact bodyPost_ret (v := .tuple #[.agg #[.int .i64 0, .slice none 0 0], .int .i64 2]) (by simp [results, Tryd.results32, go_sem]) rfl ⟨pieceRes_none _ _, hb0⟩
  · have H := hid h1
    clear h h1
    go_enter Tryd.func32, Tryd.ntmps32
    go_wp2_with fail
    refine (valid_no k t H.out _).mono ?_
    rintro e w' ⟨rfl, rfl⟩
    go_wp2
    exact bodyPost_ret (v := .tuple #[.agg #[.int .i64 0, .slice none 0 0], .int .i64 2]) (by simp [results, Tryd.results32, go_sem]) rfl ⟨pieceRes_none _ _, hb0⟩
theorem Again_size (k t i : Int) (a : Option Addr) (n c : Nat) (h : ¬ (1 ≤ k ∧ k ≤ t ∧ t ≤ 255 ∧ 0 ≤ i ∧ i < t)) (w : World) :
    Calls Tryd.prog 34 #[.int .i64 k, .int .i64 t, .slice a n c, .int .i64 i] w fun e w' => PieceRes 0 0 2 [] e w' ∧ Below w.heap.size w w' := by
  have hnot : ∀ (x : Bool) (w : World), (Op.unary .not (.bool x)).run Tryd.prog w = .ok (.bool (!x)) w := fun _ _ => rfl
  have hb0 : Below w.heap.size w (w.alloc (Obj.cells #[.int .i64 0, .slice none 0 0] 44)) := (Below.refl _ _).alloc (Nat.le_refl _) _
  by_cases h1 : 1 ≤ k ∧ k ≤ t ∧ t ≤ 255
  · obtain ⟨a1, a2, a3⟩ := h1
    by_cases h2 : i < 0
    · clear h
      go_enter Tryd.func34, Tryd.ntmps34
      go_wp2_with fail
      refine (rsizes_yes k t a1 a2 a3 _).mono ?_
      rintro e w' ⟨rfl, rfl⟩
      go_wp2
      exact bodyPost_ret (v := .tuple #[.agg #[.int .i64 0, .slice none 0 0], .int .i64 2]) (by simp [results, Tryd.results34, go_sem]) rfl ⟨pieceRes_none _ _, hb0⟩
    · have h3 : t ≤ i := by omega
      clear h
      go_enter Tryd.func34, Tryd.ntmps34
      go_wp2_with fail
      refine (rsizes_yes k t a1 a2 a3 _).mono ?_
      rintro e w' ⟨rfl, rfl⟩
      go_wp2
      exact bodyPost_ret (v := .tuple #[.agg #[.int .i64 0, .slice none 0 0], .int .i64 2]) (by simp [results, Tryd.results34, go_sem]) rfl ⟨pieceRes_none _ _, hb0⟩
  · have H := hid h1
    clear h h1
    go_enter Tryd.func34, Tryd.ntmps34
    go_wp2_with fail
    refine (rsizes_no k t H.out _).mono ?_
    rintro e w' ⟨rfl, rfl⟩
    go_wp2
    exact bodyPost_ret (v := .tuple #[.agg #[.int .i64 0, .slice none 0 0], .int .i64 2]) (by simp [results, Tryd.results34, go_sem]) rfl ⟨pieceRes_none _ _, hb0⟩

theorem piece_free {w w' : World} {b B : Nat} {x y : Value} {t : TypeId} (h : w.heap[b]? = some (.cells #[x, y] t (0, 0))) (hb : Below B w w') (hB : b < B) : w'.cell? ⟨b, 0, none⟩ = some x ∧ w'.cell? ⟨b, 1, none⟩ = some y ∧ w'.frozen? ⟨b, 0, none⟩ = false ∧ w'.frozen? ⟨b, 1, none⟩ = false := by
  have h2 := (hb.block b hB).trans h
  exact ⟨cell_of_heap h2 0, cell_of_heap h2 1, free_of_heap h2 0, free_of_heap h2 1⟩

theorem Rebuild_err (fb k t i : Nat) (a : Option Addr) (n c : Nat) (ps : List (Int × Sl)) (h1 : 1 ≤ k) (h2 : k ≤ t) (h3 : t ≤ 255) (h4 : i < t) (hn : n ≤ 100000) (w : World) (hp : Ps w (.slice a n c) ps) (x : Int)
    (hx : chkAll k t (pidx ps) (alikeE ps) n = x) (hne : x ≠ 0) :
    Calls Tryd.prog 32 #[.pointer (some ⟨fb, 0, none⟩), .int .i64 k, .int .i64 t, .slice a n c, .int .i64 i] w fun e w' => PieceRes 0 0 x [] e w' ∧ Below w.heap.size w w' := by
  have hnot : ∀ (x : Bool) (w : World), (Op.unary .not (.bool x)).run Tryd.prog w = .ok (.bool (!x)) w := fun _ _ => rfl
  have bn : (x != 0) = true := by simpa using hne
  have b1 : decide ((i : Int) < 0) = false := by simp
  have b2 : decide (t ≤ i) = false := by simp; omega
  have HP := hid hp
  have hc := fun w0 h0 => checkAlike_any (k : Int) (t : Int) a n c ps w0 (by omega) (HP.out.below h0) hn
  rw [hx] at hc
  have HC := hid hc
  have hb0 : Below w.heap.size w (w.alloc (Obj.cells #[.int .i64 0, .slice none 0 0] 44)) := (Below.refl _ _).alloc (Nat.le_refl _) _
  clear hp hne hc hx
  go_enter Tryd.func32, Tryd.ntmps32
  go_wp2_with fail
  refine (valid_yes k t (by omega) (by omega) (by omega) _).mono ?_
  rintro e w' ⟨rfl, rfl⟩
  go_wp2_with fail
  refine (HC.out _ hb0).mono ?_
  rintro e w5 ⟨rfl, hb⟩
  obtain ⟨d0, d1, f0, f1⟩ := piece_free (heap_new w (Obj.cells #[.int .i64 0, .slice none 0 0] 44)) hb (by simp)
  have hbe := known_endR hb0 hb
  go_wp2
  exact bodyPost_ret (v := .tuple #[.agg #[.int .i64 0, .slice none 0 0], .int .i64 x]) (by simp [results, Tryd.results32, go_sem, d0, d1]) rfl ⟨pieceRes_none _ _, by first | exact hbe | exact (hbe.setCell (by simp) _).setCell (by simp) _⟩
theorem Again_err (k t i : Nat) (a : Option Addr) (n c : Nat) (ps : List (Int × Sl)) (h1 : 1 ≤ k) (h2 : k ≤ t) (h3 : t ≤ 255) (h4 : i < t) (hn : n ≤ 100000) (w : World) (hp : Ps w (.slice a n c) ps) (x : Int)
    (hx : chkAll k t (pidx ps) (alikeE ps) n = x) (hne : x ≠ 0) :
    Calls Tryd.prog 34 #[.int .i64 k, .int .i64 t, .slice a n c, .int .i64 i] w fun e w' => PieceRes 0 0 x [] e w' ∧ Below w.heap.size w w' := by
  have hnot : ∀ (x : Bool) (w : World), (Op.unary .not (.bool x)).run Tryd.prog w = .ok (.bool (!x)) w := fun _ _ => rfl
  have bn : (x != 0) = true := by simpa using hne
  have b1 : decide ((i : Int) < 0) = false := by simp
  have b2 : decide (t ≤ i) = false := by simp; omega
  have HP := hid hp
  have hc := fun w0 h0 => refcheck_alike (k : Int) (t : Int) a n c ps w0 (HP.out.below h0) hn
  rw [hx] at hc
  have HC := hid hc
  have hb0 : Below w.heap.size w (w.alloc (Obj.cells #[.int .i64 0, .slice none 0 0] 44)) := (Below.refl _ _).alloc (Nat.le_refl _) _
  clear hp hne hc hx
  go_enter Tryd.func34, Tryd.ntmps34
  go_wp2_with fail
  refine (rsizes_yes k t (by omega) (by omega) (by omega) _).mono ?_
  rintro e w' ⟨rfl, rfl⟩
  go_wp2_with fail
  refine (HC.out _ hb0).mono ?_
  rintro e w5 ⟨rfl, hb⟩
  obtain ⟨d0, d1, f0, f1⟩ := piece_free (heap_new w (Obj.cells #[.int .i64 0, .slice none 0 0] 44)) hb (by simp)
  have hbe := known_endR hb0 hb
  go_wp2
  exact bodyPost_ret (v := .tuple #[.agg #[.int .i64 0, .slice none 0 0], .int .i64 x]) (by simp [results, Tryd.results34, go_sem, d0, d1]) rfl ⟨pieceRes_none _ _, by first | exact hbe | exact (hbe.setCell (by simp) _).setCell (by simp) _⟩

theorem Bs.set_offR {w : World} {v : Value} {l : List Nat} (h : Bs w v l) {b : Nat} (ho : Off b v) (i : Nat) (u : Value) : Bs (w.setCell ⟨b, i, none⟩ u) v l :=
  h.kept (Kept.setCell (Kept.refl b w) rfl u) ho
theorem alike_fit {k t : Int} {ps : List (Int × Sl)} {n : Nat} (h : Fit k t (pidx ps) (alikeE ps) n) : ∀ i, i < n → plen' ps i = plen' ps 0 ∧ plen' ps i ≤ 8192 := fun i hi => by
  have h5 := h.ok i hi
  unfold alikeE alikeL at h5
  by_cases e : 8192 < plen' ps i
  · rw [if_pos e] at h5; omega
  · rw [if_neg e] at h5
    by_cases e2 : plen' ps i = plen' ps 0
    · exact ⟨e2, by omega⟩
    · rw [if_neg e2] at h5; omega
theorem mixL_bs {w : World} {ob : Nat} {D : List (List Nat)} {ws : List Nat} {L k : Nat} (h : Own w ob (mixL D ws L k)) (hw : ∀ i, ws.getD i 0 < 256) : Bs w (.slice (some ⟨ob, 0, none⟩) L L) (mixL D ws L k) := by
  have h5 := h.bs (mixL_lt D ws L k hw) L
  rwa [mixL_length] at h5

set_option maxRecDepth 100000 in
set_option maxHeartbeats 2000000 in
theorem Again_okN (k t x : Nat) (a : Option Addr) (n c : Nat) (ps : List (Int × Sl)) (D : Nat → List Nat) (h1 : 1 ≤ k) (h2 : k ≤ t) (h3 : t ≤ 255) (h4 : x < t) (hn : n ≤ 100000) (hnc : n ≤ c) (w : World) (hp : Ps w (.slice a n c) ps)
    (hD : ∀ i, (h : i < ps.length) → Bs w (.slice ps[i].2.1 ps[i].2.2.1 ps[i].2.2.2) (D i)) (hz : chkAll k t (pidx ps) (alikeE ps) n = 0) :
    Calls Tryd.prog 34 #[.int .i64 k, .int .i64 t, .slice a n c, .int .i64 x] w fun e w' => PieceResN w.heap.size x (plen' ps 0) (mixL ((List.range k).map D) (wts (places ps k) (scales (places ps k)) x) (plen' ps 0) k) e w' ∧ Below w.heap.size w w' := by
  have hnot : ∀ (x : Bool) (w : World), (Op.unary .not (.bool x)).run Tryd.prog w = .ok (.bool (!x)) w := fun _ _ => rfl
  have hfit := fit_of hz
  have hkn : k ≤ n := by have := hfit.few; omega
  have hnp : n = ps.length := by obtain ⟨_, _, h, _⟩ := hp; simp at h; exact h.2.1
  obtain ⟨b, o, rfl⟩ : ∃ b o, a = some ⟨b, o, none⟩ := by
    obtain ⟨a', c', e1, e3⟩ := hp
    obtain ⟨b, o, ha, _⟩ := e3 (by intro e; rw [e] at hnp; simp at hnp; omega)
    simp at e1
    exact ⟨b, o, e1.1.trans ha⟩
  have b1 : decide ((x : Int) < 0) = false := by simp
  have b2 : decide (t ≤ x) = false := by simp; omega
  have HP := hid hp
  have hc := fun w0 h0 => refcheck_alike (k : Int) (t : Int) (some ⟨b, o, none⟩) n c ps w0 (HP.out.below h0) hn
  rw [hz] at hc
  have HC := hid hc
  have hal := alike_fit hfit
  have hLb := (hal 0 (by omega)).2
  have hb0 : Below w.heap.size w (w.alloc (Obj.cells #[.int .i64 0, .slice none 0 0] 44)) := (Below.refl _ _).alloc (Nat.le_refl _) _
  have HV := hid (fun w0 (h0 : Below w.heap.size w w0) => value_any k n b o c (plen' ps 0) x ps D w0 h1 (by omega) hkn hnc (by omega) (by omega) (HP.out.below h0) (fun i h => (hD i h).below h0) (fun i h => (hal i (by omega)).1) (fun i h => ⟨hfit.lo i (by omega), by have := hfit.hi i (by omega); omega⟩) (places_nodup hfit))
  have hx2 : x < 256 := by omega
  clear hp hD hc hal hfit hnp hz
  generalize plen' ps 0 = L at *
  go_enter Tryd.func34, Tryd.ntmps34
  go_wp2_with fail
  refine (rsizes_yes k t (by omega) (by omega) (by omega) _).mono ?_
  rintro e w' ⟨rfl, rfl⟩
  go_wp2_with fail
  refine (HC.out _ hb0).mono ?_
  rintro e w5 ⟨rfl, hb⟩
  have hbe := known_endR hb0 hb
  have HX := hid (heap_new w (Obj.cells #[.int .i64 0, .slice none 0 0] 44))
  go_wp2_with fail
  refine (HV.out _ hbe).mono ?_
  rintro e w6 ⟨oc, hoc, rfl, ho, hb6⟩
  obtain ⟨d0, d1, f0, f1⟩ := piece_free HX.out (known_endR hb hb6) (by simp)
  have hbf := known_endR hbe hb6
  have hsz := hb.size
  rw [World.size_alloc] at hsz
  have hbs := mixL_bs ho (fun i => getD_lt (wts_lt _ _ _) i)
  have HBS := hid (hbs.set_offR (b := w.heap.size) (show oc ≠ w.heap.size by omega) 0 (.int .i64 x))
  have HB2 := hid (HBS.out.set_offR (b := w.heap.size) (show oc ≠ w.heap.size by omega) 1 (.slice (some ⟨oc, 0, none⟩) L L))
  clear hbs
  go_wp2
  exact bodyPost_ret (v := .tuple #[.agg #[.int .i64 x, .slice (some ⟨oc, 0, none⟩) L L], .int .i64 0]) (by simp [results, Tryd.results34, go_sem, d0, d1]) rfl ⟨⟨_, by omega, rfl, HB2.out⟩, (hbf.setCell (by simp) _).setCell (by simp) _⟩
theorem Again_ok (k t x : Nat) (a : Option Addr) (n c : Nat) (ps : List (Int × Sl)) (D : Nat → List Nat) (h1 : 1 ≤ k) (h2 : k ≤ t) (h3 : t ≤ 255) (h4 : x < t) (hn : n ≤ 100000) (hnc : n ≤ c) (w : World) (hp : Ps w (.slice a n c) ps)
    (hD : ∀ i, (h : i < ps.length) → Bs w (.slice ps[i].2.1 ps[i].2.2.1 ps[i].2.2.2) (D i)) (hz : chkAll k t (pidx ps) (alikeE ps) n = 0) :
    Calls Tryd.prog 34 #[.int .i64 k, .int .i64 t, .slice a n c, .int .i64 x] w fun e w' => PieceRes x (plen' ps 0) 0 (mixL ((List.range k).map D) (wts (places ps k) (scales (places ps k)) x) (plen' ps 0) k) e w' ∧ Below w.heap.size w w' :=
  (Again_okN k t x a n c ps D h1 h2 h3 h4 hn hnc w hp hD hz).mono fun _ _ ⟨h, r⟩ => ⟨h.res, r⟩

set_option maxRecDepth 100000 in
set_option maxHeartbeats 4000000 in
theorem Rebuild_okN (fb k t x : Nat) (a : Option Addr) (n c : Nat) (ps : List (Int × Sl)) (D : Nat → List Nat) (h1 : 1 ≤ k) (h2 : k ≤ t) (h3 : t ≤ 255) (h4 : x < t) (hn : n ≤ 100000) (hnc : n ≤ c) (w : World) (hF : Fld w fb) (hH : Held fb w (.slice a n c) ps D)
    (hz : chkAll k t (pidx ps) (alikeE ps) n = 0) :
    Calls Tryd.prog 32 #[.pointer (some ⟨fb, 0, none⟩), .int .i64 k, .int .i64 t, .slice a n c, .int .i64 x] w fun e w' => PieceResN w.heap.size x (plen' ps 0) (mixL ((List.range k).map D) (wts (places ps k) (scales (places ps k)) x) (plen' ps 0) k) e w' ∧ Built w' fb ∧ Kept fb w w' := by
  have hnot : ∀ (x : Bool) (w : World), (Op.unary .not (.bool x)).run Tryd.prog w = .ok (.bool (!x)) w := fun _ _ => rfl
  have hfit := fit_of hz
  have hkn : k ≤ n := by have := hfit.few; omega
  have hnp := hH.len
  obtain ⟨b, o, rfl⟩ : ∃ b o, a = some ⟨b, o, none⟩ := by
    obtain ⟨a', c', e1, e3⟩ := hH.now.1
    obtain ⟨b, o, ha, _⟩ := e3 (by intro e; rw [e] at hnp; simp at hnp; omega)
    simp at e1
    exact ⟨b, o, e1.1.trans ha⟩
  have b1 : decide ((x : Int) < 0) = false := by simp
  have b2 : decide (t ≤ x) = false := by simp; omega
  have hc := checkAlike_any (k : Int) (t : Int) (some ⟨b, o, none⟩) n c ps
  rw [hz] at hc
  have HC := hid hc
  have hal := alike_fit hfit
  have HLENS := hid (fun i h => (hal i h).1)
  have hLb := (hal 0 (by omega)).2
  have HFIT := hid hfit
  have HN := hid hnp
  have HF := hid hF
  have HH := hid hH
  have hfb0 := hF.lt
  clear hF hH hz hc hnp hal hfit
  generalize hL : plen' ps 0 = L at *
  clear hL
  go_enter Tryd.func32, Tryd.ntmps32
  go_wp2_with fail
  refine (valid_yes k t (by omega) (by omega) (by omega) _).mono ?_
  rintro e w' ⟨rfl, rfl⟩
  have hb1 : Below w.heap.size w (w.alloc (Obj.cells #[.int .i64 0, .slice none 0 0] 44)) := (Below.refl _ _).alloc (Nat.le_refl _) _
  have HX := hid (heap_new w (Obj.cells #[.int .i64 0, .slice none 0 0] 44))
  go_wp2_with fail
  refine (HC.out _ (by omega) (HH.out.now.1.below hb1) hn).mono ?_
  rintro e w2 ⟨rfl, hb2⟩
  have hb12 : Below w.heap.size w w2 := hb1.trans (hb2.mono (by simp))
  have HB12 := hid hb12
  have hF2 : Fld w2 fb := HF.out.elim (fun h => .inl ((hb12.block _ hfb0).trans h)) (fun h => .inr ((hb12.block _ hfb0).trans h))
  have HX2 := hid ((hb2.block w.heap.size (by simp)).trans HX.out)
  clear hb1 hb2 hb12
  go_wp2_with fail
  refine (build_any fb _ hF2).mono ?_
  rintro e w3 ⟨rfl, hB3, hk3⟩
  have hK3 : Kept fb w w3 := (Kept.of_below HB12.out).trans hk3
  have HX3 := hid ((hk3.block w.heap.size (lt_of_heap HX2.out) (by omega)).trans HX2.out)
  have HK3 := hid hK3
  have HH3 := hid (HH.out.step hK3)
  have HB3 := hid hB3
  clear hK3 hk3 hF2 hB3
  have hps3 := HH3.out.now.1.take hkn
  have HPS3 := hid hps3
  have hkp : k = (ps.take k).length := by rw [List.length_take, ← HN.out, Nat.min_eq_left hkn]
  have HKP := hid hkp
  have hcc : k ≤ c := by omega
  clear hps3 hkp
  have hpl := places_length ps k
  have HPL := hid hpl
  have hnum : ∀ i, (h : i < (ps.take k).length) → (ps.take k)[i].1 = (((places ps k).getD i 0 : Nat) : Int) := fun i h => by
    rw [← HKP.out] at h
    have h5 := HFIT.out.lo i (by omega)
    rw [List.getElem_take, pidx_at, places_getD ps k i h]
    omega
  have HNUM := hid hnum
  have HLT := hid (places_lt (k := k) HFIT.out (by omega))
  have HND := hid (places_nodup (k := k) HFIT.out)
  clear hnum hpl
  go_wp2_with fail
  refine (newSource_n fb b o c k (ps.take k) (places ps k) HKP.out _ HB3.out HPS3.out (by omega) (by omega) (by rw [HPL.out, ← HKP.out]) HNUM.out HLT.out HND.out).mono ?_
  rintro e w4 ⟨pb, sb, hpb, hsb, rfl, hopb, hosb, hb4⟩
  have hkk4 : Kept fb w w4 := HK3.out.trans (Kept.of_below hb4)
  have hdat : ∀ i, (h : i < (ps.take k).length) → Bs w4 (.slice (ps.take k)[i].2.1 (ps.take k)[i].2.2.1 (ps.take k)[i].2.2.2) (((List.range k).map D).getD i []) ∧ (((List.range k).map D).getD i []).length = L := fun i h => by
    have h' := h
    rw [← HKP.out] at h'
    have hi2 : i < ps.length := by rw [← HN.out]; omega
    rw [rmap_getD _ _ _ h']
    simp only [List.getElem_take]
    exact ⟨(HH.out w4 hkk4).2 i hi2, by rw [HH.out.data i hi2]; exact HLENS.out i (by omega)⟩
  have HDAT := hid hdat
  have hpl : Bs w4 (.slice (some ⟨pb, 0, none⟩) k k) (places ps k) := by
    have h5 := hopb.bs HLT.out k
    rwa [HPL.out] at h5
  have hsl : Bs w4 (.slice (some ⟨sb, 0, none⟩) k k) (scales (places ps k)) := by
    have h5 := hosb.bs (scales_lt _) k
    rwa [scales_length, HPL.out] at h5
  have HX4 := hid ((hb4.block w.heap.size (lt_of_heap HX3.out)).trans HX3.out)
  have HB4 := hid (HB3.out.below hb4 HB3.out.lt)
  have HK4 := hid hkk4
  clear hopb hosb hdat hb4 hkk4
  go_wp2_with fail
  refine (piece_any fb b o c pb 0 k sb 0 k k L x (ps.take k) (places ps k) ((List.range k).map D) _ HB4.out ((HH.out w4 HK4.out).1.take hkn) (by omega) (by omega) HKP.out HPL.out.symm HDAT.out hpl hsl (by omega) (by omega)).mono ?_
  rintro e w6 ⟨oc, hoc, rfl, ho, hb6⟩
  have hs4 := HK4.out.size
  obtain ⟨d0, d1, f0, f1⟩ := piece_free HX4.out hb6 (lt_of_heap HX4.out)
  have hox : oc ≠ w.heap.size := by have := lt_of_heap HX4.out; omega
  have hbs := mixL_bs ho (fun i => getD_lt (wts_lt _ _ _) i)
  have HBS := hid (hbs.set_offR (b := w.heap.size) (show oc ≠ w.heap.size from hox) 0 (.int .i64 x))
  have HB2 := hid (HBS.out.set_offR (b := w.heap.size) (show oc ≠ w.heap.size from hox) 1 (.slice (some ⟨oc, 0, none⟩) L L))
  have HB6 := hid (HB4.out.below hb6 HB4.out.lt)
  have HK6 := hid (HK4.out.trans (Kept.of_below hb6))
  clear hbs hb6 hpl hsl
  go_wp2
  exact bodyPost_ret (v := .tuple #[.agg #[.int .i64 x, .slice (some ⟨oc, 0, none⟩) L L], .int .i64 0]) (by simp [results, Tryd.results32, go_sem, d0, d1]) rfl ⟨⟨_, by omega, rfl, HB2.out⟩, (HB6.out.setCell (by simp; omega) _).setCell (by simp; omega) _, (HK6.out.setNew (by simp) _).setNew (by simp) _⟩
theorem Rebuild_ok (fb k t x : Nat) (a : Option Addr) (n c : Nat) (ps : List (Int × Sl)) (D : Nat → List Nat) (h1 : 1 ≤ k) (h2 : k ≤ t) (h3 : t ≤ 255) (h4 : x < t) (hn : n ≤ 100000) (hnc : n ≤ c) (w : World) (hF : Fld w fb) (hH : Held fb w (.slice a n c) ps D)
    (hz : chkAll k t (pidx ps) (alikeE ps) n = 0) :
    Calls Tryd.prog 32 #[.pointer (some ⟨fb, 0, none⟩), .int .i64 k, .int .i64 t, .slice a n c, .int .i64 x] w fun e w' => PieceRes x (plen' ps 0) 0 (mixL ((List.range k).map D) (wts (places ps k) (scales (places ps k)) x) (plen' ps 0) k) e w' ∧ Built w' fb ∧ Kept fb w w' :=
  (Rebuild_okN fb k t x a n c ps D h1 h2 h3 h4 hn hnc w hF hH hz).mono fun _ _ ⟨h, r⟩ => ⟨h.res, r⟩

end Go.Proofs.YtehjikogdaclgaaDoor

namespace Go.Proofs.YtehjikogdaclgaaDoor
open Go Go.RowKit
set_option linter.unusedVariables false

/-- the piece that others determine -/
def pieceL (k : Int) (ps : List (Int × Sl)) (Dd : Nat → List Nat) (I : Int) : List Nat := mixL ((List.range k.toNat).map Dd) (wts (places ps k.toNat) (scales (places ps k.toNat)) I.toNat) (plen' ps 0) k.toNat
/-- the error of Regenerate -/
def regE (k n t s : Int) (m : Nat) (D : List (List Nat)) (ps : List (Int × Sl)) (Dd : Nat → List Nat) (pn : Nat) (I : Int) : Int :=
  if manB k n t s m = true then
    (if I < 0 ∨ t ≤ I then 2 else if dAll k (pidx ps) (fun i => cpE k n t s m D (pidx ps i) (Dd i)) pn = 0 then (if dig shaRound shaStart ([hi8 I, lo8 I] ++ pieceL k ps Dd I) = D.getD I.toNat [] then 0 else 20) else dAll k (pidx ps) (fun i => cpE k n t s m D (pidx ps i) (Dd i)) pn)
  else 2
def regI (k n t s : Int) (m : Nat) (D : List (List Nat)) (ps : List (Int × Sl)) (Dd : Nat → List Nat) (pn : Nat) (I : Int) : Int := if regE k n t s m D ps Dd pn I = 0 then I else 0
def regL (k n t s : Int) (m : Nat) (D : List (List Nat)) (ps : List (Int × Sl)) (Dd : Nat → List Nat) (pn : Nat) (I : Int) : List Nat := if regE k n t s m D ps Dd pn I = 0 then pieceL k ps Dd I else []
/-- a piece and an error -/
def RgnRes (x i : Int) (L : List Nat) (e : Ending) (w' : World) : Prop := ∃ ra rc, e = .returned (.tuple #[.agg #[.int .i64 i, .slice ra L.length rc], .int .i64 x]) ∧ Bs w' (.slice ra L.length rc) L ∧ L.length ≤ rc ∧ (ra = none → rc = 0)
theorem rgnRes_none (x : Int) (w : World) : RgnRes x 0 [] (.returned (.tuple #[.agg #[.int .i64 0, .slice none 0 0], .int .i64 x])) w := ⟨_, _, rfl, bs_nil _, Nat.le_refl _, fun _ => rfl⟩
theorem rgnRes_some {O : List Nat} {i : Int} {ob sz : Nat} {w' : World} (hl : O.length = sz) (h : Bs w' (.slice (some ⟨ob, 0, none⟩) sz sz) O) : RgnRes 0 i O (.returned (.tuple #[.agg #[.int .i64 i, .slice (some ⟨ob, 0, none⟩) sz sz], .int .i64 0])) w' := by
  subst hl
  exact ⟨_, _, rfl, h, Nat.le_refl _, fun h => by cases h⟩
theorem fld_setA {w : World} {fb q : Nat} (h : Fld w fb) (hne : fb ≠ q) (j : Nat) (u : Value) : Fld (w.setCell ⟨q, j, none⟩ u) fb :=
  h.elim (fun h => .inl ((heap_setCell_other w _ _ _ hne).trans h)) (fun h => .inr ((heap_setCell_other w _ _ _ hne).trans h))
theorem range_keptA {w w' : World} {fb b o : Nat} {cs : List Value} (h : w.rangeAt b o cs) (k : Kept fb w w') (hne : b ≠ fb) : w'.rangeAt b o cs := fun j v hj => by
  have h1 := h j v hj
  have hlt := World.block_lt_of_cell? _ _ h1
  exact (World.cell?_of_block (a := ⟨b, o + j, none⟩) (k.block b hlt hne)).trans h1
theorem piece_freeA {w : World} {b : Nat} {x y : Value} {t : TypeId} (h : w.heap[b]? = some (.cells #[x, y] t (0, 0))) : w.cell? ⟨b, 0, none⟩ = some x ∧ w.cell? ⟨b, 1, none⟩ = some y ∧ w.frozen? ⟨b, 0, none⟩ = false ∧ w.frozen? ⟨b, 1, none⟩ = false :=
  piece_free h (Below.refl w.heap.size w) (lt_of_heap h)

set_option maxRecDepth 100000 in
set_option maxHeartbeats 8000000 in
theorem rgn_any (fb : Nat) (w : World) (V : Vars w shaRound shaStart) (k n t s : Int) (od : List Nat) (a : Option Addr) (m c : Nat) (D : List (List Nat)) (ho : od.length = 32) (hD : Dgs w a m c D) (pa : Option Addr) (pn pc : Nat) (ps : List (Int × Sl)) (Dd : Nat → List Nat) (hd : PDat w ps Dd) (hpn : pn ≤ 100000) (hpc : pn ≤ pc) (hF : Fld w fb) (hlo : 3 ≤ fb) (hH : Held fb w (.slice pa pn pc) ps Dd) (hoffm : ∀ ad, a = some ad → ad.block ≠ fb) (I : Int) :
    Calls Tryd.prog 16 #[.pointer (some ⟨fb, 0, none⟩), .agg (mcells k n t s od (.slice a m c)).toArray, .slice pa pn pc, .int .i64 I] w fun e w' => RgnRes (regE k n t s m D ps Dd pn I) (regI k n t s m D ps Dd pn I) (regL k n t s m D ps Dd pn I) e w' ∧ Fld w' fb ∧ Kept fb w w' := by
  obtain ⟨w0, hw0⟩ : ∃ y, y = (w.alloc (.cells (mcells k n t s od (.slice a m c)).toArray 27)).alloc (.cells #[.int .i64 0, .slice none 0 0] 44) := ⟨_, rfl⟩
  have hs1 : (w.alloc (.cells (mcells k n t s od (.slice a m c)).toArray 27)).heap.size = w.heap.size + 1 := by simp
  have HB0 := hid (show Below w.heap.size w w0 from by rw [hw0]; exact ((Below.refl _ _).alloc (Nat.le_refl _) _).alloc (by simp) _)
  have HM := hid (show ManAt w0 w.heap.size k n t s od (.slice a m c) from by rw [hw0]; exact (heap_alloc_old _ _ (by simp)).trans (heap_new _ _))
  have HZ := hid (show w0.heap[w.heap.size + 1]? = some (.cells #[.int .i64 0, .slice none 0 0] 44 (0, 0)) from by rw [hw0, ← hs1]; exact heap_new _ _)
  have HIF := hid (show (Tryd.prog.info? 27).map (·.size) = some (mcells k n t s od (.slice a m c)).length from by rw [mcells_length _ _ _ _ _ _ ho]; kernel_rfl)
  have HCM := hid (fun wx => CheckManifest_any k n t s od a m c ho wx)
  have HCK := hid (fun (wx : World) (b : Below w.heap.size w wx) => ckp_any wx (V.below b) k n t s od a m c D ho (hD.below b) pa pn pc ps Dd (hH.now.1.below b) (hd.below b) hpn)
  have HRA := hid (range_of_heapI HM.out)
  have HO := hid ho
  have HV := hid V
  have HDD := hid hD
  have HPD := hid hd
  have hfl := hF.lt
  have HFF := hid hF
  have HH := hid hH
  have HN := hid hH.len
  clear hs1 ho V hD hd hF hH
  cases hv : manB k n t s m with
  | false => as_aux_lemma =>
    have HR1 := hid (show regE k n t s m D ps Dd pn I = 2 from by unfold regE; rw [hv]; rfl)
    have HR2 := hid (show regL k n t s m D ps Dd pn I = [] from by unfold regL; rw [HR1.out]; rfl)
    have HR3' := hid (show regI k n t s m D ps Dd pn I = 0 from by unfold regI; rw [HR1.out]; rfl)
    rw [show manE k n t s m = 2 from by unfold manE; rw [hv]; rfl] at HCM
    clear hv HCK
    go_enter Tryd.func16, Tryd.ntmps16
    go_upto_region 1 with fail
    change Code.wp _ _ _ _ ((w.alloc (.cells (mcells k n t s od (.slice a m c)).toArray 27)).alloc (.cells #[.int .i64 0, .slice none 0 0] 44))
    rw [← hw0]
    clear hw0
    go_wp2_with (refine wpList_load_mid (by rfl) 27 (.tmp 5) (by rfl) w.heap.size 0 (by rfl) (mcells k n t s od (.slice a m c)) _ HRA.out Tryd.underlying27 rfl HIF.out ?_)
    refine (HCM.out w0).mono ?_
    rintro e w3 ⟨rfl, hb3⟩
    have HB3 := hid (HB0.out.trans (hb3.mono HB0.out.size))
    have HR3 := hid (range_below HRA.out hb3)
    have HM3 := hid (show ManAt w3 w.heap.size k n t s od (.slice a m c) from (hb3.block _ (lt_of_heap HM.out)).trans HM.out)
    have HZ3 := hid ((hb3.block _ (lt_of_heap HZ.out)).trans HZ.out)
    clear hb3
    obtain ⟨c0, -, c2, c3, -⟩ := HM3.out.c HO.out
    obtain ⟨d0, d1, f0, f1⟩ := piece_freeA HZ3.out
    go_wp2
    exact bodyPost_ret (v := .tuple #[.agg #[.int .i64 0, .slice none 0 0], .int .i64 2]) (by simp [results, Tryd.results16, go_sem, d0, d1]) rfl ⟨by rw [HR1.out, HR3'.out, HR2.out]; exact rgnRes_none _ _, fld_belowA HFF.out ((HB3.out.setCell (p := ⟨w.heap.size + 1, 0, none⟩) (by simp) _).setCell (p := ⟨w.heap.size + 1, 1, none⟩) (by simp) _), Kept.of_below ((HB3.out.setCell (p := ⟨w.heap.size + 1, 0, none⟩) (by simp) _).setCell (p := ⟨w.heap.size + 1, 1, none⟩) (by simp) _)⟩
  | true =>
    rw [show manE k n t s m = 0 from by unfold manE; rw [hv]; rfl] at HCM
    have hnum : 1 ≤ k ∧ k ≤ n ∧ n ≤ t ∧ t ≤ 255 ∧ 0 ≤ s ∧ s ≤ 8192 ∧ (m : Int) = t := by
      have hok := hv
      unfold manB vnB vcB at hok
      simp only [Bool.and_eq_true, decide_eq_true_eq] at hok
      omega
    have HU := hid (show regE k n t s m D ps Dd pn I = (if I < 0 ∨ t ≤ I then 2 else if dAll k (pidx ps) (fun i => cpE k n t s m D (pidx ps i) (Dd i)) pn = 0 then (if dig shaRound shaStart ([hi8 I, lo8 I] ++ pieceL k ps Dd I) = D.getD I.toNat [] then 0 else 20) else dAll k (pidx ps) (fun i => cpE k n t s m D (pidx ps i) (Dd i)) pn) from by unfold regE; rw [if_pos hv])
    clear hv
    by_cases hI : I < 0 ∨ t ≤ I
    · have HR1 := hid (show regE k n t s m D ps Dd pn I = 2 from by rw [HU.out, if_pos hI])
      have HR2 := hid (show regL k n t s m D ps Dd pn I = [] from by unfold regL; rw [HR1.out]; rfl)
      have HR3' := hid (show regI k n t s m D ps Dd pn I = 0 from by unfold regI; rw [HR1.out]; rfl)
      clear HU HCK
      by_cases h0 : I < 0
      · as_aux_lemma =>
        clear hI
        go_enter Tryd.func16, Tryd.ntmps16
        go_upto_region 1 with fail
        change Code.wp _ _ _ _ ((w.alloc (.cells (mcells k n t s od (.slice a m c)).toArray 27)).alloc (.cells #[.int .i64 0, .slice none 0 0] 44))
        rw [← hw0]
        clear hw0
        go_wp2_with (refine wpList_load_mid (by rfl) 27 (.tmp 5) (by rfl) w.heap.size 0 (by rfl) (mcells k n t s od (.slice a m c)) _ HRA.out Tryd.underlying27 rfl HIF.out ?_)
        refine (HCM.out w0).mono ?_
        rintro e w3 ⟨rfl, hb3⟩
        have HB3 := hid (HB0.out.trans (hb3.mono HB0.out.size))
        have HR3 := hid (range_below HRA.out hb3)
        have HM3 := hid (show ManAt w3 w.heap.size k n t s od (.slice a m c) from (hb3.block _ (lt_of_heap HM.out)).trans HM.out)
        have HZ3 := hid ((hb3.block _ (lt_of_heap HZ.out)).trans HZ.out)
        clear hb3
        obtain ⟨c0, -, c2, c3, -⟩ := HM3.out.c HO.out
        obtain ⟨d0, d1, f0, f1⟩ := piece_freeA HZ3.out
        go_wp2
        exact bodyPost_ret (v := .tuple #[.agg #[.int .i64 0, .slice none 0 0], .int .i64 2]) (by simp [results, Tryd.results16, go_sem, d0, d1]) rfl ⟨by rw [HR1.out, HR3'.out, HR2.out]; exact rgnRes_none _ _, fld_belowA HFF.out ((HB3.out.setCell (p := ⟨w.heap.size + 1, 0, none⟩) (by simp) _).setCell (p := ⟨w.heap.size + 1, 1, none⟩) (by simp) _), Kept.of_below ((HB3.out.setCell (p := ⟨w.heap.size + 1, 0, none⟩) (by simp) _).setCell (p := ⟨w.heap.size + 1, 1, none⟩) (by simp) _)⟩
      · as_aux_lemma =>
        have h1 : t ≤ I := by omega
        clear hI
        go_enter Tryd.func16, Tryd.ntmps16
        go_upto_region 1 with fail
        change Code.wp _ _ _ _ ((w.alloc (.cells (mcells k n t s od (.slice a m c)).toArray 27)).alloc (.cells #[.int .i64 0, .slice none 0 0] 44))
        rw [← hw0]
        clear hw0
        go_wp2_with (refine wpList_load_mid (by rfl) 27 (.tmp 5) (by rfl) w.heap.size 0 (by rfl) (mcells k n t s od (.slice a m c)) _ HRA.out Tryd.underlying27 rfl HIF.out ?_)
        refine (HCM.out w0).mono ?_
        rintro e w3 ⟨rfl, hb3⟩
        have HB3 := hid (HB0.out.trans (hb3.mono HB0.out.size))
        have HR3 := hid (range_below HRA.out hb3)
        have HM3 := hid (show ManAt w3 w.heap.size k n t s od (.slice a m c) from (hb3.block _ (lt_of_heap HM.out)).trans HM.out)
        have HZ3 := hid ((hb3.block _ (lt_of_heap HZ.out)).trans HZ.out)
        clear hb3
        obtain ⟨c0, -, c2, c3, -⟩ := HM3.out.c HO.out
        obtain ⟨d0, d1, f0, f1⟩ := piece_freeA HZ3.out
        go_wp2
        exact bodyPost_ret (v := .tuple #[.agg #[.int .i64 0, .slice none 0 0], .int .i64 2]) (by simp [results, Tryd.results16, go_sem, d0, d1]) rfl ⟨by rw [HR1.out, HR3'.out, HR2.out]; exact rgnRes_none _ _, fld_belowA HFF.out ((HB3.out.setCell (p := ⟨w.heap.size + 1, 0, none⟩) (by simp) _).setCell (p := ⟨w.heap.size + 1, 1, none⟩) (by simp) _), Kept.of_below ((HB3.out.setCell (p := ⟨w.heap.size + 1, 0, none⟩) (by simp) _).setCell (p := ⟨w.heap.size + 1, 1, none⟩) (by simp) _)⟩
    have h0 : ¬ I < 0 := fun h => hI (.inl h)
    have h1 : ¬ t ≤ I := fun h => hI (.inr h)
    by_cases hda : dAll k (pidx ps) (fun i => cpE k n t s m D (pidx ps i) (Dd i)) pn = 0
    case neg => as_aux_lemma =>
      have HR1 := hid (show regE k n t s m D ps Dd pn I = dAll k (pidx ps) (fun i => cpE k n t s m D (pidx ps i) (Dd i)) pn from by rw [HU.out, if_neg hI, if_neg hda])
      have HR2 := hid (show regL k n t s m D ps Dd pn I = [] from by unfold regL; rw [HR1.out, if_neg hda])
      have HR3' := hid (show regI k n t s m D ps Dd pn I = 0 from by unfold regI; rw [HR1.out, if_neg hda])
      have b1 : (dAll k (pidx ps) (fun i => cpE k n t s m D (pidx ps i) (Dd i)) pn != 0) = true := by simpa using hda
      clear HU hda hI
      generalize dAll k (pidx ps) (fun i => cpE k n t s m D (pidx ps i) (Dd i)) pn = E at HR1 b1 HCK
      go_enter Tryd.func16, Tryd.ntmps16
      go_upto_region 1 with fail
      change Code.wp _ _ _ _ ((w.alloc (.cells (mcells k n t s od (.slice a m c)).toArray 27)).alloc (.cells #[.int .i64 0, .slice none 0 0] 44))
      rw [← hw0]
      clear hw0
      go_wp2_with (refine wpList_load_mid (by rfl) 27 (.tmp 5) (by rfl) w.heap.size 0 (by rfl) (mcells k n t s od (.slice a m c)) _ HRA.out Tryd.underlying27 rfl HIF.out ?_)
      refine (HCM.out w0).mono ?_
      rintro e w3 ⟨rfl, hb3⟩
      have HB3 := hid (HB0.out.trans (hb3.mono HB0.out.size))
      have HR3 := hid (range_below HRA.out hb3)
      have HM3 := hid (show ManAt w3 w.heap.size k n t s od (.slice a m c) from (hb3.block _ (lt_of_heap HM.out)).trans HM.out)
      have HZ3 := hid ((hb3.block _ (lt_of_heap HZ.out)).trans HZ.out)
      clear hb3
      obtain ⟨c0, -, c2, c3, -⟩ := HM3.out.c HO.out
      go_wp2_with (refine wpList_load_mid (by rfl) 27 (.tmp 5) (by rfl) w.heap.size 0 (by rfl) (mcells k n t s od (.slice a m c)) _ HR3.out Tryd.underlying27 rfl HIF.out ?_)
      refine (HCK.out w3 HB3.out).mono ?_
      rintro e w4 ⟨rfl, hb4⟩
      have HB4 := hid (HB3.out.trans (hb4.mono HB3.out.size))
      have HZ4 := hid ((hb4.block _ (lt_of_heap HZ3.out)).trans HZ3.out)
      clear hb4 c0 c2 c3
      obtain ⟨d0, d1, f0, f1⟩ := piece_freeA HZ4.out
      go_wp2
      exact bodyPost_ret (v := .tuple #[.agg #[.int .i64 0, .slice none 0 0], .int .i64 E]) (by simp [results, Tryd.results16, go_sem, d0, d1]) rfl ⟨by rw [HR1.out, HR3'.out, HR2.out]; exact rgnRes_none _ _, fld_belowA HFF.out ((HB4.out.setCell (p := ⟨w.heap.size + 1, 0, none⟩) (by simp) _).setCell (p := ⟨w.heap.size + 1, 1, none⟩) (by simp) _), Kept.of_below ((HB4.out.setCell (p := ⟨w.heap.size + 1, 0, none⟩) (by simp) _).setCell (p := ⟨w.heap.size + 1, 1, none⟩) (by simp) _)⟩
    case pos =>
      obtain ⟨hz0, hkp, hlen⟩ := rs_right (t := t) HPD.out HN.out hda
      have hz : chkAll k t (pidx ps) (alikeE ps) pn = 0 := by
        obtain ⟨g1, _⟩ := dAll_zero hda
        refine chk_of (fun i hi => ?_) hkp
        obtain ⟨g2, g3⟩ := dTo_all g1 i hi
        obtain ⟨_, e1, e2, _, _, _⟩ := cp_zero g2
        refine ⟨e1, e2, g3, ?_⟩
        unfold alikeE alikeL
        rw [(hlen i hi).2, (hlen 0 (by omega)).2]
        have := plen_le k.toNat s.toNat (by omega)
        rw [if_neg (by omega), if_pos rfl]
      rw [hda] at HCK
      have HPL := hid (show (pieceL k ps Dd I).length = plen' ps 0 from by unfold pieceL; exact mixL_length _ _ _ _)
      have hp0 : plen' ps 0 ≤ 8192 := by rw [(hlen 0 (by omega)).2]; have := plen_le k.toNat s.toNat (by omega); omega
      have HDC := hid (fun (wx : World) (b : Below w.heap.size w wx) => Rebuild_okN fb k.toNat t.toNat I.toNat pa pn pc ps Dd (by omega) (by omega) (by omega) (by omega) hpn hpc wx (fld_belowA HFF.out b) (HH.out.step (Kept.of_below b)) (by rw [show ((k.toNat : Nat) : Int) = k from by omega, show ((t.toNat : Nat) : Int) = t from by omega]; exact hz))
      rw [show ((k.toNat : Nat) : Int) = k from by omega, show ((t.toNat : Nat) : Int) = t from by omega, show ((I.toNat : Nat) : Int) = I from by omega] at HDC
      have HUE := hid (show regE k n t s m D ps Dd pn I = (if dig shaRound shaStart ([hi8 I, lo8 I] ++ pieceL k ps Dd I) = D.getD I.toNat [] then 0 else 20) from by rw [HU.out, if_neg hI, if_pos hda])
      have HRL := hid (show regL k n t s m D ps Dd pn I = if regE k n t s m D ps Dd pn I = 0 then pieceL k ps Dd I else [] from rfl)
      have HRI := hid (show regI k n t s m D ps Dd pn I = if regE k n t s m D ps Dd pn I = 0 then I else 0 from rfl)
      have HDC2 := hid (fun (wx : World) (b : Below w.heap.size w wx) => (HDC.out wx b).mono (fun e w' h => (show PieceResN wx.heap.size I (plen' ps 0) (pieceL k ps Dd I) e w' ∧ Built w' fb ∧ Kept fb wx w' from h)))
      obtain ⟨i, hi⟩ : ∃ i : Nat, I = (i : Int) := ⟨I.toNat, by omega⟩
      have him : i < D.length := by have := HDD.out.len; omega
      obtain ⟨b, o', ha, hrg⟩ : ∃ b o', a = some ⟨b, o', none⟩ ∧ ∀ j, j < D.length → w.rangeAt b (o' + j * 32) (u8s (D.getD j [])) := by
        obtain ⟨a', c', h1, h2, h3⟩ := HDD.out.at_
        obtain ⟨b, o', e, h4⟩ := h3 (fun h => by rw [h] at him; simp at him)
        simp only [Value.slice.injEq] at h1
        exact ⟨b, o', h1.1.trans e, h4⟩
      have hl32 : (D.getD i []).length = 32 := by
        rw [List.getD_eq_getElem?_getD, List.getElem?_eq_getElem him]
        exact HDD.out.l32 _ (List.getElem_mem _)
      have HRG := hid (hrg i him)
      obtain ⟨O, hO⟩ : ∃ O, O = pieceL k ps Dd I := ⟨_, rfl⟩
      rw [← hO] at HUE HPL HDC2 HRL
      obtain ⟨Y, hY⟩ : ∃ Y, Y = dig shaRound shaStart ([hi8 I, lo8 I] ++ O) := ⟨_, rfl⟩
      have hY32 : Y.length = 32 := by rw [hY]; exact dig_length _ _ _
      have HSH := hid (fun (wx : World) (V : Vars wx shaRound shaStart) (ob : Nat) (h : Bs wx (.slice (some ⟨ob, 0, none⟩) (plen' ps 0) (plen' ps 0)) O) => pdg_all I (some ⟨ob, 0, none⟩) (plen' ps 0) (plen' ps 0) O wx V h (Nat.le_refl _) (fun h => by cases h) (by omega))
      rw [← hY] at HSH HUE
      obtain ⟨Z, hZ⟩ : ∃ Z, Z = D.getD i [] := ⟨_, rfl⟩
      rw [← hZ] at HRG hl32
      have HEQ := hid (fun wx => eql_any Y Z hY32 hl32 wx)
      have HIFZ := hid (show (Tryd.prog.info? 24).map (·.size) = some (u8s Z).length from by simp only [u8s, List.length_map, hl32]; kernel_rfl)
      have hq0 : ∀ (q : Bool), q = decide (Y = Z) → regE k n t s m D ps Dd pn I = if q then 0 else 20 := by
        rintro q rfl
        rw [HUE.out, hZ, hi]
        simp only [Int.toNat_natCast]
        by_cases h : Y = D.getD i []
        · rw [if_pos h, decide_eq_true h]; rfl
        · rw [if_neg h, decide_eq_false h]; rfl
      generalize hq : decide (Y = Z) = q at *
      have HQ := hid (hq0 q rfl)
      have hmi : (i : Int) < (m : Int) := by have := HDD.out.len; omega
      have hi0 : (0 : Int) ≤ (i : Int) := by omega
      clear hq0 hq hY hY32 hO HUE HDC hz hz0 hkp hlen hda HU hrg him hZ hl32 hI
      subst hi
      subst ha
      cases q
      all_goals as_aux_lemma =>
        go_enter Tryd.func16, Tryd.ntmps16
        go_upto_region 1 with fail
        change Code.wp _ _ _ _ ((w.alloc (.cells (mcells k n t s od (.slice (some ⟨b, o', none⟩) m c)).toArray 27)).alloc (.cells #[.int .i64 0, .slice none 0 0] 44))
        rw [← hw0]
        clear hw0
        go_wp2_with (refine wpList_load_mid (by rfl) 27 (.tmp 5) (by rfl) w.heap.size 0 (by rfl) (mcells k n t s od (.slice (some ⟨b, o', none⟩) m c)) _ HRA.out Tryd.underlying27 rfl HIF.out ?_)
        refine (HCM.out w0).mono ?_
        rintro e w3 ⟨rfl, hb3⟩
        have HB3 := hid (HB0.out.trans (hb3.mono HB0.out.size))
        have HR3 := hid (range_below HRA.out hb3)
        have HM3 := hid (show ManAt w3 w.heap.size k n t s od (.slice (some ⟨b, o', none⟩) m c) from (hb3.block _ (lt_of_heap HM.out)).trans HM.out)
        have HZ3 := hid ((hb3.block _ (lt_of_heap HZ.out)).trans HZ.out)
        clear hb3
        obtain ⟨c0, -, c2, c3, -⟩ := HM3.out.c HO.out
        go_wp2_with (refine wpList_load_mid (by rfl) 27 (.tmp 5) (by rfl) w.heap.size 0 (by rfl) (mcells k n t s od (.slice (some ⟨b, o', none⟩) m c)) _ HR3.out Tryd.underlying27 rfl HIF.out ?_)
        refine (HCK.out w3 HB3.out).mono ?_
        rintro e w4 ⟨rfl, hb4⟩
        have HB4 := hid (HB3.out.trans (hb4.mono HB3.out.size))
        have HM4 := hid (show ManAt w4 w.heap.size k n t s od (.slice (some ⟨b, o', none⟩) m c) from (hb4.block _ (lt_of_heap HM3.out)).trans HM3.out)
        have HZ4 := hid ((hb4.block _ (lt_of_heap HZ3.out)).trans HZ3.out)
        clear hb4 c0 c2 c3
        obtain ⟨c0, -, c2, c3, c36⟩ := HM4.out.c HO.out
        go_wp2_with fail
        refine (HDC2.out w4 HB4.out).mono ?_
        rintro e w5 ⟨⟨ob, hob5, rfl, hbs5⟩, hbu5, hk5⟩
        have HK5 := hid ((Kept.of_below (b := fb) HB4.out).trans hk5)
        have hobz : ob ≠ w.heap.size + 1 := by have := lt_of_heap HZ4.out; omega
        have HBS5 := hid hbs5
        have HBU := hid (show Fld w5 fb from .inr hbu5)
        have HM5 := hid (show ManAt w5 w.heap.size k n t s od (.slice (some ⟨b, o', none⟩) m c) from (hk5.block _ (lt_of_heap HM4.out) (by omega)).trans HM4.out)
        have HZ5 := hid ((hk5.block _ (lt_of_heap HZ4.out) (by omega)).trans HZ4.out)
        have HV5 := hid (HV.out.kept HK5.out hlo)
        have HRG5 := hid (range_keptA HRG.out HK5.out (hoffm _ rfl))
        clear hk5 hbs5 hbu5
        obtain ⟨w6, hw6⟩ : ∃ y, y = w5.alloc (.cells #[.int .i64 (i : Int), .slice (some ⟨ob, 0, none⟩) (plen' ps 0) (plen' ps 0)] 44) := ⟨_, rfl⟩
        have hb56 : Below w5.heap.size w5 w6 := by rw [hw6]; exact (Below.refl _ _).alloc (Nat.le_refl _) _
        have HQB := hid (show w6.heap[w5.heap.size]? = some (.cells #[.int .i64 (i : Int), .slice (some ⟨ob, 0, none⟩) (plen' ps 0) (plen' ps 0)] 44 (0, 0)) from by rw [hw6]; exact heap_new _ _)
        have HK6 := hid (HK5.out.trans (Kept.of_below hb56))
        have HBS6 := hid (HBS5.out.below hb56)
        have HZ6 := hid ((hb56.block _ (lt_of_heap HZ5.out)).trans HZ5.out)
        have hM6 : ManAt w6 w.heap.size k n t s od (.slice (some ⟨b, o', none⟩) m c) := (hb56.block _ (lt_of_heap HM5.out)).trans HM5.out
        have HV6 := hid (HV5.out.below hb56)
        have HRG6 := hid (range_below HRG5.out hb56)
        have HBU6 := hid (fld_belowA HBU.out hb56)
        have q36 := (hM6.c HO.out).2.2.2.2
        obtain ⟨g0, g1, -, -⟩ := piece_freeA HQB.out
        have hne : Nonempty (Cls fun w' => Below w6.heap.size w6 w') := ⟨⟨w6, Below.refl _ _⟩⟩
        have r36 : ∀ p : Cls (fun w' => Below w6.heap.size w6 w'), p.w.cell? ⟨w.heap.size, 36, none⟩ = some (.slice (some ⟨b, o', none⟩) m c) := fun p => (p.h.cell (World.block_lt_of_cell? _ _ q36)).trans q36
        have r0 : ∀ p : Cls (fun w' => Below w6.heap.size w6 w'), p.w.cell? ⟨w5.heap.size, 0, none⟩ = some (.int .i64 (i : Int)) := fun p => (p.h.cell (World.block_lt_of_cell? _ _ g0)).trans g0
        have r1 : ∀ p : Cls (fun w' => Below w6.heap.size w6 w'), p.w.cell? ⟨w5.heap.size, 1, none⟩ = some (.slice (some ⟨ob, 0, none⟩) (plen' ps 0) (plen' ps 0)) := fun p => (p.h.cell (World.block_lt_of_cell? _ _ g1)).trans g1
        have HSQ := hid (fun (p : Cls fun w' => Below w6.heap.size w6 w') => HSH.out p.w (HV6.out.below p.h) ob (HBS6.out.below p.h))
        have HRQ := hid (fun (p : Cls fun w' => Below w6.heap.size w6 w') => range_below HRG6.out p.h)
        have e1 := fun wx => HEQ.out wx
        clear c0 c2 c3 c36 q36 g0 g1 hM6 hb56
        go_upto_region 12 with fail
        change Code.wp _ _ _ _ (w5.alloc (.cells #[.int .i64 (i : Int), .slice (some ⟨ob, 0, none⟩) (plen' ps 0) (plen' ps 0)] 44))
        rw [← hw6]
        clear hw6
        refine wp_region_class_lit (G := fun w' => Below w6.heap.size w6 w') (by kernel_rfl) (by kernel_rfl) (bel_drewN (Below.refl _ _) 1) ?_
        iterate 12 (go_big_quiet_step ((go_at_call 33; exact Calls.cls (HSQ.out _))))
        refine wpQuiet_load_clsW (by rfl) 24 (.tmp 61) (by rfl) b (o' + i * 32) (by rfl) (u8s Z) _ HRQ.out Tryd.underlying24 rfl HIFZ.out ?_
        rintro _ rfl
        try simp only [Act.put, List.setIfInBounds_toArray, List.set_cons_zero, List.set_cons_succ]
        repeat (go_big_quiet_step ((go_at_call 33; exact Calls.cls (HSQ.out _))))
        refine wpQuiet_nil ?_
        rintro _ ⟨⟨wp, hwp⟩, rfl⟩
        have HKP := hid (HK6.out.trans (Kept.of_below hwp))
        have HFP := hid (fld_belowA HBU6.out hwp)
        have HBSP := hid (HBS6.out.below hwp)
        obtain ⟨d0, d1, f0, f1⟩ := piece_freeA ((hwp.block _ (lt_of_heap HZ6.out)).trans HZ6.out)
        obtain ⟨g0, g1, -, -⟩ := piece_freeA ((hwp.block _ (lt_of_heap HQB.out)).trans HQB.out)
        clear hwp e1 HSQ HRQ hne r36 r0 r1
        go_wp2
        first
          | exact bodyPost_ret (v := .tuple #[.agg #[.int .i64 0, .slice none 0 0], .int .i64 20]) (by simp [results, Tryd.results16, go_sem, d0, d1]) rfl ⟨by rw [HRL.out, HRI.out, HQ.out]; exact rgnRes_none _ _, fld_setA (fld_setA HFP.out (by omega) _ _) (by omega) _ _, ((HKP.out.setNew (p := ⟨w.heap.size + 1, 0, none⟩) (by simp) _).setNew (p := ⟨w.heap.size + 1, 1, none⟩) (by simp) _)⟩
          | exact bodyPost_ret (v := .tuple #[.agg #[.int .i64 (i : Int), .slice (some ⟨ob, 0, none⟩) (plen' ps 0) (plen' ps 0)], .int .i64 0]) (by simp [results, Tryd.results16, go_sem, d0, d1]) rfl ⟨by rw [HRL.out, HRI.out, HQ.out]; exact rgnRes_some HPL.out ((HBSP.out.set_offR (b := w.heap.size + 1) hobz 0 _).set_offR (b := w.heap.size + 1) hobz 1 _), fld_setA (fld_setA HFP.out (by omega) _ _) (by omega) _ _, ((HKP.out.setNew (p := ⟨w.heap.size + 1, 0, none⟩) (by simp) _).setNew (p := ⟨w.heap.size + 1, 1, none⟩) (by simp) _)⟩
end Go.Proofs.YtehjikogdaclgaaDoor

namespace Go.Proofs.YtehjikogdaclgaaDoor
open Go Go.RowKit
set_option linter.unusedVariables false

/-- the digests that Make writes -/
def DGm (l : List Nat) (k t : Nat) : List (List Nat) := (List.range t).map fun j => pdg shaRound shaStart l k (plen k l.length) j
theorem DGm_len (l : List Nat) (k t : Nat) : (DGm l k t).length = t := by simp [DGm]
theorem getD_lt8 {l : List Nat} (h : ∀ y ∈ l, y < 256) (i : Nat) : l.getD i 0 < 256 := by
  rw [List.getD_eq_getElem?_getD]
  by_cases hi : i < l.length
  · rw [List.getElem?_eq_getElem hi]; exact h _ (List.getElem_mem _)
  · rw [List.getElem?_eq_none (by omega)]; decide
theorem rst_man {k n t : Nat} {l : List Nat} (ok : 1 ≤ k ∧ k ≤ n ∧ n ≤ t ∧ t ≤ 255 ∧ l.length ≤ 8192) : manB k n t l.length t = true := by
  unfold manB vnB vcB
  simp only [Bool.and_eq_true, decide_eq_true_eq, and_true]
  omega
/-- a piece of the object passes CheckPiece -/
theorem rst_cp {k n t : Nat} {l : List Nat} (ok : 1 ≤ k ∧ k ≤ n ∧ n ≤ t ∧ t ≤ 255 ∧ l.length ≤ 8192) (x : Nat) (hx : x < t) : cpE k n t l.length t (DGm l k t) (x : Int) (encP l k (plen k l.length) x) = 0 := by
  have e1 : hi8 (x : Int) = x / 256 := by unfold hi8; omega
  have e2 : lo8 (x : Int) = x % 256 := by unfold lo8; omega
  have e3 : (DGm l k t).getD x [] = dig shaRound shaStart ([x / 256, x % 256] ++ encP l k (plen k l.length) x) := by
    unfold DGm
    rw [List.getD_eq_getElem?_getD, List.getElem?_map, List.getElem?_range hx]
    rfl
  have h1 : ¬ ((x : Int) < 0 ∨ (t : Int) ≤ (x : Int)) := by omega
  have h2 : ¬ ((encP l k (plen k l.length) x).length ≠ plen (k : Int).toNat ((l.length : Nat) : Int).toNat) := by
    rw [encR_length, Int.toNat_natCast, Int.toNat_natCast]
    exact fun h => h rfl
  have h3 : ¬ (dig shaRound shaStart ([hi8 (x : Int), lo8 (x : Int)] ++ encP l k (plen k l.length) x) ≠ (DGm l k t).getD (x : Int).toNat []) := by
    rw [e1, e2, Int.toNat_natCast, e3]
    exact fun h => h rfl
  unfold cpE
  rw [if_pos (rst_man ok), if_neg h1, if_neg h2, if_neg h3]
theorem dTo_ok {idx ce : Nat → Int} : ∀ {n : Nat}, (∀ i, i < n → ce i = 0 ∧ occ idx i (idx i) = false) → dTo idx ce n = 0
  | 0, _ => rfl
  | n + 1, h => by
    refine dTo_next (dTo_ok fun i hi => h i (by omega)) ?_
    obtain ⟨h1, h2⟩ := h n (by omega)
    unfold dStep
    rw [if_pos h1, h2]
    rfl
/-- chosen pieces of the object l -/
structure Rst (k n t : Nat) (l : List Nat) (s : List Nat) (ps : List (Int × Sl)) : Prop where
  ok : 1 ≤ k ∧ k ≤ n ∧ n ≤ t ∧ t ≤ 255 ∧ l.length ≤ 8192
  lt : ∀ y ∈ l, y < 256
  ch : Chosen k t s
  idx : ∀ i, i < k → pidx ps i = (s.getD i 0 : Nat)
  len : ∀ i, i < k → plen' ps i = plen k l.length
section
variable {k n t : Nat} {l s : List Nat} {ps : List (Int × Sl)} (h : Rst k n t l s ps)
include h
theorem Rst.slt (i : Nat) : s.getD i 0 < t := h.ch.getD_lt (by have := h.ok; omega) i
theorem Rst.places : places ps k = s := by
  refine ext_getD (by rw [places_length, h.ch.len]) fun i hi => ?_
  rw [places_length] at hi
  rw [places_getD _ _ _ hi, h.idx i hi, Int.toNat_natCast]
theorem Rst.all : dAll k (pidx ps) (fun i => cpE k n t l.length t (DGm l k t) (pidx ps i) (rowsD l k (plen k l.length) s i)) k = 0 := by
  have h1 : dTo (pidx ps) (fun i => cpE k n t l.length t (DGm l k t) (pidx ps i) (rowsD l k (plen k l.length) s i)) k = 0 := dTo_ok fun i hi => by
    refine ⟨?_, ?_⟩
    · show cpE k n t l.length t (DGm l k t) (pidx ps i) (rowsD l k (plen k l.length) s i) = 0
      rw [h.idx i hi]
      exact rst_cp h.ok _ (h.slt i)
    · cases ho : occ (pidx ps) i (pidx ps i) with
      | false => rfl
      | true =>
        obtain ⟨j, hj, e⟩ := (occ_iff _ _ _).1 ho
        rw [h.idx i hi, h.idx j (by omega)] at e
        exact absurd (by omega) (nodup_getD h.ch.nod (i := j) (j := i) (by rw [h.ch.len]; omega) (by rw [h.ch.len]; exact hi) (by omega))
  unfold dAll
  rw [if_pos h1, if_neg (by omega)]
theorem Rst.obj : objL k l.length ps (rowsD l k (plen k l.length) s) = l := by
  unfold objL
  rw [Int.toNat_natCast, Int.toNat_natCast, h.places]
  exact join_rows l (getD_lt8 h.lt) (plen k l.length) h.ch h.ok.2.2.2.1 h.ok.1 (by have := h.ok; omega) (plen_ge k l.length h.ok.1)
theorem Rst.asmE : asmE k n t l.length t (dig shaRound shaStart l) (DGm l k t) ps (rowsD l k (plen k l.length) s) k = 0 := by
  unfold Go.Proofs.YtehjikogdaclgaaDoor.asmE
  rw [if_pos (rst_man h.ok), if_pos h.all, h.obj, if_pos rfl]
theorem Rst.asmL : asmL k n t l.length t (dig shaRound shaStart l) (DGm l k t) ps (rowsD l k (plen k l.length) s) k = l := by
  unfold Go.Proofs.YtehjikogdaclgaaDoor.asmL
  rw [if_pos h.asmE, h.obj]
theorem Rst.piece (x : Nat) (hx : x < t) : pieceL k ps (rowsD l k (plen k l.length) s) (x : Int) = encP l k (plen k l.length) x := by
  unfold pieceL
  rw [Int.toNat_natCast, Int.toNat_natCast, h.places, h.len 0 (by have := h.ok; omega)]
  exact mix_rows l (getD_lt8 h.lt) (plen k l.length) h.ch h.ok.2.2.2.1 h.ok.1 (by have := h.ok; omega) x (by have := h.ok; omega)
theorem Rst.regE (x : Nat) (hx : x < t) : regE k n t l.length t (DGm l k t) ps (rowsD l k (plen k l.length) s) k (x : Int) = 0 := by
  have hok := h.ok
  have e1 : hi8 (x : Int) = x / 256 := by unfold hi8; omega
  have e2 : lo8 (x : Int) = x % 256 := by unfold lo8; omega
  have e3 : (DGm l k t).getD x [] = dig shaRound shaStart ([x / 256, x % 256] ++ encP l k (plen k l.length) x) := by
    unfold DGm
    rw [List.getD_eq_getElem?_getD, List.getElem?_map, List.getElem?_range hx]
    rfl
  unfold Go.Proofs.YtehjikogdaclgaaDoor.regE
  rw [if_pos (rst_man h.ok), if_neg (by omega), if_pos h.all, h.piece x hx, e1, e2, Int.toNat_natCast, e3, if_pos rfl]
theorem Rst.regI (x : Nat) (hx : x < t) : regI k n t l.length t (DGm l k t) ps (rowsD l k (plen k l.length) s) k (x : Int) = x := by
  unfold Go.Proofs.YtehjikogdaclgaaDoor.regI
  rw [if_pos (h.regE x hx)]
theorem Rst.regL (x : Nat) (hx : x < t) : regL k n t l.length t (DGm l k t) ps (rowsD l k (plen k l.length) s) k (x : Int) = encP l k (plen k l.length) x := by
  unfold Go.Proofs.YtehjikogdaclgaaDoor.regL
  rw [if_pos (h.regE x hx), h.piece x hx]
end
end Go.Proofs.YtehjikogdaclgaaDoor

namespace Go.Proofs.YtehjikogdaclgaaDoor
open Go Go.RowKit
set_option linter.unusedVariables false

/-- the copies so far -/
structure MineI (w wr : World) (v : Value) (i : Nat) (ps qs : List (Int × Sl)) (D : Nat → List Nat) : Prop where
  own : wr.ownsRow w.heap.size 44 2 v i (pcells qs)
  len : qs.length = i
  same : ∀ j, j < i → pidx qs j = pidx ps j ∧ plen' qs j = plen' ps j
  data : ∀ j, (h : j < qs.length) → wr.ownsRow w.heap.size 5 1 (.slice qs[j].2.1 qs[j].2.2.1 qs[j].2.2.2) qs[j].2.2.1 (u8s (D j))
  below : Below w.heap.size w wr
theorem pcells_snoc (qs : List (Int × Sl)) (p : Int × Sl) : pcells qs ++ [.int .i64 p.1, .slice p.2.1 p.2.2.1 p.2.2.2] = pcells (qs ++ [p]) := by simp [pcells]
theorem MineI.next {w wr wA w2 : World} {v v' : Value} {i : Nat} {ps qs : List (Int × Sl)} {D : Nat → List Nat} (h : MineI w wr v i ps qs D) (o : Obj) {da : Option Addr} {dn dc : Nat} (x : Int)
    (hA : Below wr.heap.size wr wA) (hd : wA.ownsRow w.heap.size 5 1 (.slice da dn dc) dn (u8s (D i))) (ho : w2.ownsRow w.heap.size 44 2 v' (i + 1) (pcells qs ++ [.int .i64 x, .slice da dn dc])) (hg : (wA.alloc o).grownBy w2 v.ownBlock)
    (hx : x = pidx ps i) (hn : dn = plen' ps i) : MineI w w2 v' (i + 1) ps (qs ++ [(x, da, dn, dc)]) D := by
  have hsz := h.below.size
  have howA := (owns_below h.own hA).alloc o
  have hlen := h.len
  have hdat : ∀ j, (hj : j < (qs ++ [(x, da, dn, dc)]).length) → wA.ownsRow w.heap.size 5 1 (.slice (qs ++ [(x, da, dn, dc)])[j].2.1 (qs ++ [(x, da, dn, dc)])[j].2.2.1 (qs ++ [(x, da, dn, dc)])[j].2.2.2) (qs ++ [(x, da, dn, dc)])[j].2.2.1 (u8s (D j)) := fun j hj => by
    by_cases e : j < qs.length
    · rw [List.getElem_append_left e]
      exact owns_below (h.data j e) hA
    · have e2 : j = i := by simp at hj; omega
      subst e2
      rw [List.getElem_append_right (by omega)]
      simp only [hlen, Nat.sub_self, List.getElem_cons_zero]
      exact hd
  refine ⟨by rw [← pcells_snoc]; exact ho, by simp [hlen], fun j hj => ?_, fun j hj => ?_, ?_⟩
  · unfold pidx plen'
    by_cases e : j < qs.length
    · rw [List.getD_eq_getElem?_getD, List.getElem?_append_left e, ← List.getD_eq_getElem?_getD]
      exact h.same j (by omega)
    · have e2 : j = i := by omega
      subst e2
      rw [List.getD_eq_getElem?_getD, List.getElem?_append_right (by omega), hlen, Nat.sub_self]
      exact ⟨hx, hn⟩
  · exact ((hdat j hj).alloc o).kept hg (own_types ((hdat j hj).alloc o) howA (by decide))
  · exact ((h.below.trans (hA.mono hsz)).alloc (Nat.le_trans hsz hA.size) o).grown hg (by have := hA.size; simp; omega) (fun g hg => (h.own.lt g hg).1)
theorem MineI.reads {w wr : World} {v : Value} {n : Nat} {ps qs : List (Int × Sl)} {D : Nat → List Nat} (h : MineI w wr v n ps qs D) (hD : ∀ i, i < n → ∀ x ∈ D i, x < 256) :
    ∃ a' c', v = .slice a' n c' ∧ n ≤ c' ∧ Ps wr (.slice a' n c') qs ∧ ∀ i, (h : i < qs.length) → Bs wr (.slice qs[i].2.1 qs[i].2.2.1 qs[i].2.2.2) (D i) := by
  have hlen := h.len
  have hdat : ∀ i, (h : i < qs.length) → Bs wr (.slice qs[i].2.1 qs[i].2.2.1 qs[i].2.2.2) (D i) := fun i hi => by
    obtain ⟨a, c, e, _, _, hb, _⟩ := bs_of_owns (h.data i hi) (hD i (by omega))
    exact hb
  have ho := h.own
  rcases ho.2 with ⟨rfl, h0⟩ | ⟨g, cap, cur, rfl, h3, h4, h5, _⟩
  · subst h0
    have hq : qs = [] := List.eq_nil_of_length_eq_zero hlen
    subst hq
    exact ⟨none, 0, rfl, Nat.le_refl _, ⟨none, 0, rfl, fun e => absurd rfl e⟩, hdat⟩
  · have h6 := ps_of_owns (c := cap) ho (show n ≤ qs.length by omega)
    rw [List.take_of_length_le (by omega)] at h6
    exact ⟨_, cap, rfl, h5, h6, hdat⟩
theorem MineI.fns {w wr : World} {v : Value} {n : Nat} {ps qs : List (Int × Sl)} {D : Nat → List Nat} (h : MineI w wr v n ps qs D) (hn : n = ps.length) : pidx qs = pidx ps ∧ plen' qs = plen' ps := by
  have hl := h.len
  constructor <;> funext i
  · by_cases hi : i < n
    · exact (h.same i hi).1
    · unfold pidx
      rw [List.getD_eq_getElem?_getD, List.getD_eq_getElem?_getD, List.getElem?_eq_none (by omega), List.getElem?_eq_none (by omega)]
  · by_cases hi : i < n
    · exact (h.same i hi).2
    · unfold plen'
      rw [List.getD_eq_getElem?_getD, List.getD_eq_getElem?_getD, List.getElem?_eq_none (by omega), List.getElem?_eq_none (by omega)]
theorem places_fn {qs ps : List (Int × Sl)} (h : pidx qs = pidx ps) (k : Nat) : places qs k = places ps k := by unfold places; rw [h]
end Go.Proofs.YtehjikogdaclgaaDoor
