/-
  The walk of the law that the inverse undoes.
-/
import Derived.Test.YtndkcabmaigneaaInvM2
import Derived.Deep.DeepCutAuto
namespace Go.Proofs.Ytndkcabmaigneaa
open Go Go.RowKit
set_option linter.unusedVariables false

theorem Fld.sameB {w w' : World} {b : Nat} (h : Fld w b) (e : w'.heap[b]? = w.heap[b]?) : Fld w' b := h.elim (fun h => .inl (e.trans h)) (fun h => .inr (e.trans h))
/-- what stands between the law's steps: the field, the argument, the inverse, the unit -/
structure UInv (W : World) (fb xi xu ab ao ib io ub uo R n cap icap ucap : Nat) (l L U : List Nat) (w : World) : Prop where
  fld : Fld w fb
  bm : w.heap[W.heap.size]? = some (Obj.cells #[.int .i64 R, .int .i64 R, .slice (some ⟨ab, ao, none⟩) n cap] 52)
  bi : w.heap[xi]? = some (Obj.cells #[.int .i64 R, .int .i64 R, .slice (some ⟨ib, io, none⟩) n icap] 52)
  bu : w.heap[xu]? = some (Obj.cells #[.int .i64 R, .int .i64 R, .slice (some ⟨ub, uo, none⟩) n ucap] 52)
  hA : Bs w (.slice (some ⟨ab, ao, none⟩) n cap) l
  hI : Bs w (.slice (some ⟨ib, io, none⟩) n icap) L
  hU : Bs w (.slice (some ⟨ub, uo, none⟩) n ucap) U
  bel : Below W.heap.size W w
  ne : W.heap.size < fb ∧ xi ≠ fb ∧ xu ≠ fb ∧ ab ≠ fb ∧ ib ≠ fb ∧ ub ≠ fb
theorem UInv.step {W : World} {fb xi xu ab ao ib io ub uo R n cap icap ucap : Nat} {l L U : List Nat} {w w' : World} (h : UInv W fb xi xu ab ao ib io ub uo R n cap icap ucap l L U w) (k : Kept fb w w') (hF : Fld w' fb) : UInv W fb xi xu ab ao ib io ub uo R n cap icap ucap l L U w' := by
  obtain ⟨n1, n2, n3, n4, n5, n6⟩ := h.ne
  have hk : ∀ q o, w.heap[q]? = some o → q ≠ fb → w'.heap[q]? = some o := fun q o hq hne => (k.block q (lt_of_heap hq) hne).trans hq
  exact ⟨hF, hk _ _ h.bm (by omega), hk _ _ h.bi n2, hk _ _ h.bu n3, h.hA.kept k n4, h.hI.kept k n5, h.hU.kept k n6, known_kept h.bel k n1, h.ne⟩
where
  known_kept {W w w' : World} {fb : Nat} (h : Below W.heap.size W w) (k : Kept fb w w') (n1 : W.heap.size < fb) : Below W.heap.size W w' := h.trans (k.below h.size (Nat.le_of_lt n1))
theorem UInv.below {W : World} {fb xi xu ab ao ib io ub uo R n cap icap ucap : Nat} {l L U : List Nat} {w w' : World} (h : UInv W fb xi xu ab ao ib io ub uo R n cap icap ucap l L U w) (k : Below w.heap.size w w') : UInv W fb xi xu ab ao ib io ub uo R n cap icap ucap l L U w' :=
  h.step (Kept.of_below k) (h.fld.sameB (k.block _ h.fld.lt))
/-- a product of the law: the box and the cells -/
structure PRes (fb tb ob R n : Nat) (L : List Nat) (w : World) : Prop where
  bx : w.heap[tb]? = some (Obj.cells #[.int .i64 R, .int .i64 R, .slice (some ⟨ob, 0, none⟩) n n] 52)
  out : Own w ob L
  ne : tb ≠ fb ∧ ob ≠ fb
theorem PRes.step {fb tb ob R n : Nat} {L : List Nat} {w w' : World} (h : PRes fb tb ob R n L w) (k : Kept fb w w') : PRes fb tb ob R n L w' :=
  ⟨(k.block _ (lt_of_heap h.bx) h.ne.1).trans h.bx, (k.block _ h.out.lt h.ne.2).trans h.out, h.ne⟩

theorem PRes.bs {fb tb ob R n : Nat} {w : World} (h : PRes fb tb ob R n (flat R R idM) w) (hn : n = R * R) : Bs w (.slice (some ⟨ob, 0, none⟩) n n) (flat R R idM) := by
  have h5 := h.out.bs (flat_lt idM_lt) n
  rw [flat_length, ← hn] at h5
  exact h5
theorem leaf_set3 {W : World} {fb xi xu ab ao ib io ub uo R n cap icap ucap : Nat} {l L U : List Nat} {w0 w : World} {tb ob : Nat} {N : List Nat} {x0 y0 z0 : Value} (hT : w.heap[tb]? = some (.cells #[x0, y0, z0] 52 (0, 0)))
    (hU : UInv W fb xi xu ab ao ib io ub uo R n cap icap ucap l L U w0) (k : Kept fb w0 w) (hF : Fld w fb) (hR : Own w ob N) (htb : w0.heap.size ≤ tb) (hne : tb ≠ ob) (tf : tb ≠ fb) (of : ob ≠ fb) :
    UInv W fb xi xu ab ao ib io ub uo R n cap icap ucap l L U (((w.setCell ⟨tb, 0, none⟩ (.int .i64 R)).setCell ⟨tb, 1, none⟩ (.int .i64 R)).setCell ⟨tb, 2, none⟩ (.slice (some ⟨ob, 0, none⟩) n n)) ∧ PRes fb tb ob R n N (((w.setCell ⟨tb, 0, none⟩ (.int .i64 R)).setCell ⟨tb, 1, none⟩ (.int .i64 R)).setCell ⟨tb, 2, none⟩ (.slice (some ⟨ob, 0, none⟩) n n)) ∧ Kept fb w0 (((w.setCell ⟨tb, 0, none⟩ (.int .i64 R)).setCell ⟨tb, 1, none⟩ (.int .i64 R)).setCell ⟨tb, 2, none⟩ (.slice (some ⟨ob, 0, none⟩) n n)) := by
  have kv : Kept fb w0 (((w.setCell ⟨tb, 0, none⟩ (.int .i64 R)).setCell ⟨tb, 1, none⟩ (.int .i64 R)).setCell ⟨tb, 2, none⟩ (.slice (some ⟨ob, 0, none⟩) n n)) := ((k.setNew (p := ⟨tb, 0, none⟩) htb _).setNew (p := ⟨tb, 1, none⟩) htb _).setNew (p := ⟨tb, 2, none⟩) htb _
  have e : (((w.setCell ⟨tb, 0, none⟩ (.int .i64 R)).setCell ⟨tb, 1, none⟩ (.int .i64 R)).setCell ⟨tb, 2, none⟩ (.slice (some ⟨ob, 0, none⟩) n n)).heap[fb]? = w.heap[fb]? := (Below.heap_setCell _ _ _ _ (Ne.symm tf)).trans ((Below.heap_setCell _ _ _ _ (Ne.symm tf)).trans (Below.heap_setCell _ _ _ _ (Ne.symm tf)))
  exact ⟨hU.step kv (hF.sameB e), ⟨set3_self hT _ _ _, ((hR.setCell (p := ⟨tb, 0, none⟩) hne _).setCell (p := ⟨tb, 1, none⟩) hne _).setCell (p := ⟨tb, 2, none⟩) hne _, tf, of⟩, kv⟩
theorem leaf_alloc {W : World} {fb xi xu ab ao ib io ub uo R n cap icap ucap : Nat} {l L U : List Nat} {w0 w : World} {ob : Nat} {N : List Nat}
    (hU : UInv W fb xi xu ab ao ib io ub uo R n cap icap ucap l L U w0) (k : Kept fb w0 w) (hF : Fld w fb) (hR : Own w ob N) (of : ob ≠ fb) :
    UInv W fb xi xu ab ao ib io ub uo R n cap icap ucap l L U (w.alloc (Obj.cells #[.int .i64 R, .int .i64 R, .slice (some ⟨ob, 0, none⟩) n n] 52)) ∧ PRes fb w.heap.size ob R n N (w.alloc (Obj.cells #[.int .i64 R, .int .i64 R, .slice (some ⟨ob, 0, none⟩) n n] 52)) ∧ Kept fb w0 (w.alloc (Obj.cells #[.int .i64 R, .int .i64 R, .slice (some ⟨ob, 0, none⟩) n n] 52)) :=
  ⟨hU.step (k.alloc _) (hF.alloc _), ⟨heap_new _ _, hR.alloc _, Nat.ne_of_gt hF.lt, of⟩, k.alloc _⟩

theorem prodU (fb R n ca cb : Nat) (a b : Option Addr) (A X : Nat → Nat → Nat) (w : World) (hF : Fld w fb) (h1 : 1 ≤ R) (h2 : R ≤ 255) (hn : n = R * R) (hca : n ≤ ca) (hcb : n ≤ cb) (hAl : ∀ i j, A i j < 256)
    (hA : Bs w (.slice a n ca) (flat R R A)) (hX : Bs w (.slice b n cb) (flat R R X)) (oA : Off fb (.slice a n ca)) (oX : Off fb (.slice b n cb)) (hid : ∀ i j, i < R → j < R → prodTo A X R i j = idM i j) :
    Calls Try.prog 67 #[.pointer (some ⟨fb, 0, none⟩), .agg #[.int .i64 R, .int .i64 R, .slice a n ca], .agg #[.int .i64 R, .int .i64 R, .slice b n cb]] w fun e w' => ∃ ob, w.heap.size ≤ ob ∧ e = .returned (.tuple #[.agg #[.int .i64 R, .int .i64 R, .slice (some ⟨ob, 0, none⟩) n n], .int .i64 0]) ∧ Own w' ob (flat R R idM) ∧ Fld w' fb ∧ Kept fb w w' := by
  refine (Product_ok fb R R R a b n n ca cb A X w hF h1 h2 h1 h2 h1 h2 hn hn hca hcb hAl hA hX oA oX).mono ?_
  rintro e w' ⟨ob, h3, h4, h5, h6, h7⟩
  rw [← hn] at h4
  rw [flat_congr hid] at h5
  exact ⟨ob, h3, h4, h5, .inr h6, h7⟩

set_option maxRecDepth 100000 in
set_option maxHeartbeats 4000000 in
theorem undoes_in (W : World) (R : Nat) (a : Option Addr) (n cap : Nat) (l : List Nat) (hA : Bs W (.slice a n cap) l) (hna : a = none → cap = 0) (hncap : n ≤ cap) (h1 : 1 ≤ R) (h2 : R ≤ 60) (hn : n = R * R) :
    Calls Try.prog 24 #[.agg #[.int .i64 R, .int .i64 R, .slice a n cap]] W fun e w' => e = .returned (.bool true) ∧ Below W.heap.size W w' := by
  have hnot : ∀ (x : Bool) (w : World), (Op.unary .not (.bool x)).run Try.prog w = .ok (.bool (!x)) w := fun _ _ => rfl
  obtain ⟨M, hMl, hfl⟩ : ∃ M : Nat → Nat → Nat, (∀ i j, M i j < 256) ∧ l = flat R R M := ⟨matOf R l, matOf_lt R l hA.lt, (flat_matOf l (by rw [← hA.len, hn])).symm⟩
  subst hfl
  obtain ⟨ab, ao, rfl⟩ := hA.some (flat_ne h1 h1)
  have hnb : n ≤ 3600 := by rw [hn]; exact Nat.mul_le_mul h2 h2
  obtain ⟨k, hk⟩ : ∃ k, k = (gj R M R).2 := ⟨_, rfl⟩
  have hkR : k ≤ R := by rw [hk]; exact (gj_le R M R).1
  have HK := hid hk
  have HML := hid hMl
  have HN := hid hn
  have hab : ab < W.heap.size := Nat.lt_of_not_le fun h => (show ab ≠ ab from hA.off_ge (flat_ne h1 h1) h) rfl
  have w1h : ∃ w1, w1 = W.alloc (Obj.cells #[.int .i64 R, .int .i64 R, .slice (some ⟨ab, ao, none⟩) n cap] 52) := ⟨_, rfl⟩
  obtain ⟨w1, hw1⟩ := w1h
  have hbel : Below W.heap.size W w1 := by rw [hw1]; exact (Below.refl _ _).alloc (Nat.le_refl _) _
  have g0 : w1.heap[W.heap.size]? = some (Obj.cells #[.int .i64 R, .int .i64 R, .slice (some ⟨ab, ao, none⟩) n cap] 52) := by rw [hw1]; exact heap_new _ _
  obtain ⟨c0, c1, c2, _, _, _⟩ := c3_of g0
  have HA1 := hid (hA.below hbel)
  have G0 := hid g0
  clear hA g0 hMl hn hk hna
  go_enter Try.func24, Try.ntmps24
  go_wp2_with fail
  rw [← hw1]
  clear hw1
  refine (large_no R R n _ cap (by omega) (by omega) hnb _).mono ?_
  rintro e w2 ⟨rfl, hb2⟩
  have HA2 := hid (HA1.out.below hb2)
  have G2 := hid ((hb2.block _ (lt_of_heap G0.out)).trans G0.out)
  have HB2 := hid (known_end hbel hb2)
  clear c0 c1 c2 hb2 hbel
  obtain ⟨c0, c1, c2, _, _, _⟩ := c3_of G2.out
  go_wp2_with fail
  refine (own_any R R _ n cap _ _ HA2.out (by intro h; cases h) (by omega)).mono ?_
  rintro e w3 ⟨a', ca, rfl, hca, hA3, lowA, _, hb3⟩
  have G3 := hid ((hb3.block _ (lt_of_heap G2.out)).trans G2.out)
  have HB3 := hid (known_end HB2.out hb3)
  have HA3 := hid (HA2.out.below hb3)
  clear c0 c1 c2 hb3 hA3 lowA
  obtain ⟨c0, c1, c2, _, _, _⟩ := c3_of G3.out
  go_wp2_with fail
  refine (Valid_yes R R n a' ca h1 (by omega) h1 (by omega) HN.out _).mono ?_
  rintro e w4 ⟨rfl, hb4⟩
  have G4 := hid ((hb4.block _ (lt_of_heap G3.out)).trans G3.out)
  have HB4 := hid (known_end HB3.out hb4)
  have HA4 := hid (HA3.out.below hb4)
  clear c0 c1 c2 hb4 hca
  obtain ⟨c0, c1, c2, _, _, _⟩ := c3_of G4.out
  go_wp2_with fail
  refine (newField_ex _).mono ?_
  rintro e w5 ⟨fb, hfb, rfl, hfr, hb5⟩
  have hW4 := lt_of_heap G4.out
  have HF5 := hid (show Fld w5 fb from .inl hfr)
  have G5 := hid ((hb5.block _ (lt_of_heap G4.out)).trans G4.out)
  have HB5 := hid (known_end HB4.out hb5)
  have HA5 := hid (HA4.out.below hb5)
  have hab5 : ab < W.heap.size := hab
  clear c0 c1 c2 hb5 hfr
  obtain ⟨c0, c1, c2, _, _, _⟩ := c3_of G5.out
  go_wp2_with fail
  refine (own_any R R _ n cap _ _ HA5.out (by intro h; cases h) (by omega)).mono ?_
  rintro e w6 ⟨a6, ca6, rfl, hca6, hA6, lowA6, _, hb6⟩
  have HF6 := hid (HF5.out.sameB (hb6.block _ HF5.out.lt))
  have G6 := hid ((hb6.block _ (lt_of_heap G5.out)).trans G5.out)
  have HB6 := hid (known_end HB5.out hb6)
  have HA6 := hid (HA5.out.below hb6)
  have O6 := hid (off_low (n := n) (c := ca6) lowA6 HF5.out.lt)
  have HC6 := hid hA6
  clear c0 c1 c2 hb6 lowA6 hA6
  obtain ⟨c0, c1, c2, _, _, _⟩ := c3_of G6.out
  go_wp2_with fail
  refine (Rank_ok fb R R n ca6 a6 M _ HF6.out h1 (by omega) h1 (by omega) HN.out HML.out HC6.out O6.out).mono ?_
  rw [← HK.out]
  rintro e w7 ⟨rfl, hB7, hk7⟩
  have HF7 := hid (show Fld w7 fb from .inr hB7)
  have G7 := hid ((hk7.block _ (lt_of_heap G6.out) (by omega)).trans G6.out)
  have HB7 := hid (HB6.out.trans (hk7.below HB6.out.size (by omega)))
  have HA7 := hid (HA6.out.kept hk7 (by show ab ≠ fb; omega))
  clear c0 c1 c2 hB7 hk7 HC6 O6 hca6
  obtain ⟨c0, c1, c2, _, _, _⟩ := c3_of G7.out
  go_wp2_with fail
  refine (own_any R R _ n cap _ _ HA7.out (by intro h; cases h) (by omega)).mono ?_
  rintro e w8 ⟨a8, ca8, rfl, hca8, hA8, lowA8, _, hb8⟩
  have HF8 := hid (HF7.out.sameB (hb8.block _ HF7.out.lt))
  have G8 := hid ((hb8.block _ (lt_of_heap G7.out)).trans G7.out)
  have HB8 := hid (known_end HB7.out hb8)
  have HA8 := hid (HA7.out.below hb8)
  have O8 := hid (off_low (n := n) (c := ca8) lowA8 HF7.out.lt)
  have HC8 := hid hA8
  clear c0 c1 c2 hb8 lowA8 hA8
  obtain ⟨c0, c1, c2, _, _, _⟩ := c3_of G8.out
  go_wp2_with fail
  refine (Inverse_ok fb R n ca8 a8 M _ HF8.out h1 (by omega) HN.out hca8 HML.out HC8.out O8.out).mono ?_
  rintro e w9 ⟨hres, hB9, hk9⟩
  have HF9 := hid (show Fld w9 fb from .inr hB9)
  have G9 := hid ((hk9.block _ (lt_of_heap G8.out) (by omega)).trans G8.out)
  have HB9 := hid (HB8.out.trans (hk9.below HB8.out.size (by omega)))
  have HA9 := hid (HA8.out.kept hk9 (by show ab ≠ fb; omega))
  have hf8 := HF8.out.lt
  clear c0 c1 c2 hB9 hk9 HC8 O8 hca8
  obtain ⟨c0, c1, c2, _, _, _⟩ := c3_of (heap_alloc G9.out (Obj.cells #[.int .i64 R, .int .i64 R, .slice none 0 0] 52))
  clear c0 c1 c2
  unfold InvRes at hres
  rw [rank_both, ← HK.out] at hres
  have e1 : decide ((k : Int) < 0) = false := by simp
  have e2 : decide ((R : Int) < (k : Int)) = false := by simp; omega
  by_cases hlk : k < R
  · rw [if_pos hlk] at hres
    obtain ⟨ra, rn, rc, rfl, hR9, lowR⟩ := hres
    have e3 : decide ((k : Int) < (R : Int)) = true := by simp; omega
    have V9 := hid (heap_alloc G9.out (Obj.cells #[.int .i64 0, .int .i64 0, .slice ra rn rc] 52))
    obtain ⟨c0, c1, c2, _, _, _⟩ := c3_of V9.out
    clear hR9 lowR
    go_wp2_with fail
    refine (known_any _).mono ?_
    rintro e w10 ⟨rfl, hb10⟩
    go_wp2
    go_ret
    exact ⟨rfl, known_end (HB9.out.alloc HB9.out.size _) hb10⟩
  · rw [if_neg hlk] at hres
    obtain ⟨ra, rn, rc, rfl, hR9, lowR⟩ := hres
    have e3 : decide ((k : Int) < (R : Int)) = false := by simp; omega
    have hfull : (gj R M R).2 = R := by rw [← HK.out]; omega
    have hR9' : Bs w9 (.slice ra rn rc) (flat R R (invM M R)) := hR9
    obtain ⟨ib, io, rfl⟩ := hR9'.some (flat_ne h1 h1)
    have hrn : rn = n := by rw [hR9'.len, flat_length, ← HN.out]
    subst hrn
    have hib : w8.heap.size ≤ ib := lowR _ rfl
    have V9 := hid (heap_alloc G9.out (Obj.cells #[.int .i64 R, .int .i64 R, .slice (some ⟨ib, io, none⟩) rn rc] 52))
    have I9 := hid (heap_new w9 (Obj.cells #[.int .i64 R, .int .i64 R, .slice (some ⟨ib, io, none⟩) rn rc] 52))
    have HAV := hid (HA9.out.alloc (Obj.cells #[.int .i64 R, .int .i64 R, .slice (some ⟨ib, io, none⟩) rn rc] 52))
    have HIV := hid (hR9'.alloc (Obj.cells #[.int .i64 R, .int .i64 R, .slice (some ⟨ib, io, none⟩) rn rc] 52))
    have HFV := hid (HF9.out.alloc (Obj.cells #[.int .i64 R, .int .i64 R, .slice (some ⟨ib, io, none⟩) rn rc] 52))
    have HBV := hid (HB9.out.alloc HB9.out.size (Obj.cells #[.int .i64 R, .int .i64 R, .slice (some ⟨ib, io, none⟩) rn rc] 52))
    have hf9 := HF9.out.lt
    obtain ⟨c0, c1, c2, _, _, _⟩ := c3_of V9.out
    clear hR9 hR9' lowR HA9 HF9 HB9 G9
    go_wp2_with fail
    refine (Identity_ok R h1 (by omega) _).mono ?_
    rintro e wA ⟨⟨ua, un, uc, rfl, hUA, lowU⟩, hbA⟩
    obtain ⟨ub, uo, rfl⟩ := hUA.some (flat_ne h1 h1)
    have hun : un = rn := by rw [hUA.len, flat_length, ← HN.out]
    subst hun
    have hub : w9.heap.size ≤ ub := by have := lowU _ rfl; simp at this; omega
    have hsA := hbA.size
    rw [World.size_alloc] at hsA
    have hinv : UInv W fb w9.heap.size wA.heap.size ab ao ib io ub uo R un cap rc uc (flat R R M) (flat R R (invM M R)) (flat R R idM) (wA.alloc (Obj.cells #[.int .i64 R, .int .i64 R, .slice (some ⟨ub, uo, none⟩) un uc] 52)) := by
      refine ⟨(HFV.out.sameB (hbA.block _ HFV.out.lt)).alloc _, heap_alloc ((hbA.block _ (lt_of_heap V9.out)).trans V9.out) _, heap_alloc ((hbA.block _ (lt_of_heap I9.out)).trans I9.out) _, heap_new _ _, (HAV.out.below hbA).alloc _, (HIV.out.below hbA).alloc _, hUA.alloc _, (known_end HBV.out hbA).alloc (known_end HBV.out hbA).size _, by omega, by omega, by omega, by omega, by omega, by omega⟩
    have HU := hid hinv
    clear c0 c1 c2 hinv hUA hbA lowU HIV HAV HFV HBV V9 I9
    clear HA1 HA2 HA3 HA4 HA5 HA6 HA7 HA8 G0 G2 G3 G4 G5 G6 G7 G8 HF5 HF6 HF7 HF8 HB2 HB3 HB4 HB5 HB6 HB7 HB8 hib hub hf8 hf9 hsA
    go_upto_region 11 with fail
    generalize wA.alloc (Obj.cells #[.int .i64 R, .int .i64 R, .slice (some ⟨ub, uo, none⟩) un uc] 52) = wB at *
    generalize wA.heap.size = xu at *
    generalize w9.heap.size = xi at *
    have hm : W.heap.size < wB.heap.size := lt_of_heap HU.out.bm
    have hx : xi < wB.heap.size := lt_of_heap HU.out.bi
    go_cut [10, 11] (fun tv ev wx => ∃ tb ob, tv = .pointer (some ⟨tb, 0, none⟩) ∧ ev = .int .i64 0 ∧ Hid (UInv W fb xi xu ab ao ib io ub uo R un cap rc uc (flat R R M) (flat R R (invM M R)) (flat R R idM) wx) ∧ Hid (PRes fb tb ob R un (flat R R idM) wx))
    case first =>
      go_region_held3 (fun w' => w'.cell? ⟨W.heap.size, 0, none⟩ = some (.int .i64 R) ∧ w'.cell? ⟨W.heap.size, 1, none⟩ = some (.int .i64 R) ∧ w'.cell? ⟨W.heap.size, 2, none⟩ = some (.slice (some ⟨ab, ao, none⟩) un cap) ∧ w'.cell? ⟨xi, 0, none⟩ = some (.int .i64 R) ∧ w'.cell? ⟨xi, 1, none⟩ = some (.int .i64 R) ∧ w'.cell? ⟨xi, 2, none⟩ = some (.slice (some ⟨ib, io, none⟩) un rc))
      (first | with_reducible exact keep66 HU.out.bm HU.out.bi | with_reducible exact keep66 U5.out.bm U5.out.bi | with_reducible exact keep66 U6.out.bm U6.out.bi | with_reducible exact keep66 U7.out.bm U7.out.bi | with_reducible exact keep66 (heap_alloc HU.out.bm _) (heap_alloc HU.out.bi _) | with_reducible exact keep66 (heap_alloc U5.out.bm _) (heap_alloc U5.out.bi _) | with_reducible exact keep66 (heap_alloc U6.out.bm _) (heap_alloc U6.out.bi _) | with_reducible exact keep66 (heap_alloc U7.out.bm _) (heap_alloc U7.out.bi _) | with_reducible exact keep66 (set3_at U7.out.bm (by omega) _ _ _) (set3_at U7.out.bi (by omega) _ _ _) | exact keep66 HU.out.bm HU.out.bi | exact keep66 (heap_alloc HU.out.bm _) (heap_alloc HU.out.bi _))
      (first | (go_at_call_of 58 (Value.agg #[.int .i64 (R : Int), .int .i64 (R : Int), .slice (some ⟨ab, ao, none⟩) un cap])
                refine (own_any R R _ un cap _ _ (by first | exact HU.out.hA.drewN 1 | exact (HU.out.hA.drewN 1).alloc _) (by intro h; cases h) (by omega)).mono ?_
                rintro e w5' ⟨a5, ca5, rfl, hca5, hA5, lowA, _, hb5⟩
                first | have TT := hid ((hb5.block wB.heap.size (lt_alloc wB _)).trans (heap_new wB _)) | skip
                have lowA : ∀ ad, a5 = some ad → wB.heap.size ≤ ad.block := fun ad h => by have := lowA ad h; first | exact this | (simp at this; omega)
                have hb5 : Below wB.heap.size wB w5' := by first | exact chainA hb5 | exact ((Below.refl _ _).alloc (Nat.le_refl _) _).trans ((chainA hb5).mono (by simp))
                have U5 := hid (HU.out.below hb5)
                have O5 := hid (off_low (n := un) (c := ca5) lowA HU.out.fld.lt)
                have HA5 := hid hA5
                have hs5 := hb5.size)
             | (go_at_call_of 58 (Value.agg #[.int .i64 (R : Int), .int .i64 (R : Int), .slice (some ⟨ib, io, none⟩) un rc])
                refine (own_any R R _ un rc _ _ (by first | exact U5.out.hI | exact U5.out.hI.alloc _) (by intro h; cases h) (by omega)).mono ?_
                rintro e w6' ⟨a6, ca6, rfl, hca6, hA6, lowB, _, hb6⟩
                first | have TT := hid ((hb6.block _ (lt_of_heap TT.out)).trans TT.out) | have TT := hid ((hb6.block w5'.heap.size (lt_alloc w5' _)).trans (heap_new w5' _)) | skip
                have lowB : ∀ ad, a6 = some ad → w5'.heap.size ≤ ad.block := fun ad h => by have := lowB ad h; first | exact this | (simp at this; omega)
                have hb6 : Below w5'.heap.size w5' w6' := by first | exact hb6 | exact ((Below.refl _ _).alloc (Nat.le_refl _) _).trans (hb6.mono (by simp))
                have U6 := hid (U5.out.below hb6)
                have O6 := hid (off_low (n := un) (c := ca6) lowB U5.out.fld.lt)
                have HA5 := hid (HA5.out.below hb6)
                have HA6 := hid hA6
                have hs6 := hb6.size)
             | (go_at_call 67
                have hF6 := U6.out.fld
                refine (prodU fb R un ca5 ca6 a5 a6 M (invM M R) _ (by first | exact hF6 | exact hF6.alloc _) h1 (by omega) HN.out hca5 hca6 HML.out (by first | exact HA5.out | exact HA5.out.alloc _) (by first | exact HA6.out | exact HA6.out.alloc _) O5.out O6.out (fun i j hi hj => inv_right HML.out R hfull i j hi hj)).mono ?_
                rintro e w7' ⟨ob, hob, rfl, hR7, hF7, hk7⟩
                first | have TO := Nat.ne_of_lt (Nat.lt_of_lt_of_le (lt_of_heap TT.out) hob) | have TO : w6'.heap.size ≠ ob := Nat.ne_of_lt (Nat.lt_of_lt_of_le (lt_alloc w6' _) hob) | skip
                first | have TF := ne_of_cells TT.out hF6 | have TF : w6'.heap.size ≠ fb := Nat.ne_of_gt hF6.lt | skip
                first | have TT := hid ((hk7.block _ (lt_of_heap TT.out) (ne_of_cells TT.out hF6)).trans TT.out) | have TT := hid ((hk7.block w6'.heap.size (lt_alloc w6' _) (Nat.ne_of_gt hF6.lt)).trans (heap_new w6' _)) | skip
                have hob : w6'.heap.size ≤ ob := by first | exact hob | (simp at hob; omega)
                have hk7 : Kept fb w6' w7' := by first | exact hk7 | exact ((Kept.refl _ _).alloc _).trans hk7
                have hs7 := hk7.size
                have hlf := hF6.lt
                have K7 := hid (((Kept.of_below hb5).trans (Kept.of_below hb6)).trans hk7)
                have U7 := hid (U6.out.step hk7 hF7)
                first | (have t0 := (c3_of TT.out).c0; have t1 := (c3_of TT.out).c1; have t2 := (c3_of TT.out).c2; have u0 := (c3_of TT.out).f0; have u1 := (c3_of TT.out).f1; have u2 := (c3_of TT.out).f2) | skip))
      all_goals first
        | (have LV := hid (leaf_set3 TT.out HU.out K7.out hF7 hR7 (by omega) TO TF (by omega)))
        | (have LV := hid (leaf_alloc HU.out K7.out hF7 hR7 (by omega)))
      all_goals
        go_wp2_with fail
        go_meet
        exact ⟨_, ob, rfl, rfl, hid LV.out.1, hid LV.out.2.1⟩
    case rest =>
      obtain ⟨tb1, ob1, rfl, rfl, HV, HP⟩ := hcut
      have hm : W.heap.size < wc.heap.size := lt_of_heap HV.out.bm
      have hx : xi < wc.heap.size := lt_of_heap HV.out.bi
      clear HU
      go_upto_region 12 with fail
      go_cut [12, 13] (fun tv ev wx => ∃ tb ob, tv = .pointer (some ⟨tb, 0, none⟩) ∧ ev = .int .i64 0 ∧ Hid (UInv W fb xi xu ab ao ib io ub uo R un cap rc uc (flat R R M) (flat R R (invM M R)) (flat R R idM) wx) ∧ Hid (PRes fb tb ob R un (flat R R idM) wx) ∧ Hid (PRes fb tb1 ob1 R un (flat R R idM) wx))
      case first =>
        go_region_held3 (fun w' => w'.cell? ⟨W.heap.size, 0, none⟩ = some (.int .i64 R) ∧ w'.cell? ⟨W.heap.size, 1, none⟩ = some (.int .i64 R) ∧ w'.cell? ⟨W.heap.size, 2, none⟩ = some (.slice (some ⟨ab, ao, none⟩) un cap) ∧ w'.cell? ⟨xi, 0, none⟩ = some (.int .i64 R) ∧ w'.cell? ⟨xi, 1, none⟩ = some (.int .i64 R) ∧ w'.cell? ⟨xi, 2, none⟩ = some (.slice (some ⟨ib, io, none⟩) un rc))
        (first | with_reducible exact keep66 HV.out.bm HV.out.bi | with_reducible exact keep66 U5.out.bm U5.out.bi | with_reducible exact keep66 U6.out.bm U6.out.bi | with_reducible exact keep66 U7.out.bm U7.out.bi | with_reducible exact keep66 (heap_alloc HV.out.bm _) (heap_alloc HV.out.bi _) | with_reducible exact keep66 (heap_alloc U5.out.bm _) (heap_alloc U5.out.bi _) | with_reducible exact keep66 (heap_alloc U6.out.bm _) (heap_alloc U6.out.bi _) | with_reducible exact keep66 (heap_alloc U7.out.bm _) (heap_alloc U7.out.bi _) | with_reducible exact keep66 (set3_at U7.out.bm (by omega) _ _ _) (set3_at U7.out.bi (by omega) _ _ _) | exact keep66 HV.out.bm HV.out.bi | exact keep66 (heap_alloc HV.out.bm _) (heap_alloc HV.out.bi _))
        (first | (go_at_call_of 58 (Value.agg #[.int .i64 (R : Int), .int .i64 (R : Int), .slice (some ⟨ib, io, none⟩) un rc])
                  refine (own_any R R _ un rc _ _ (by first | exact HV.out.hI.drewN 1 | exact (HV.out.hI.drewN 1).alloc _) (by intro h; cases h) (by omega)).mono ?_
                  rintro e w5' ⟨a5, ca5, rfl, hca5, hA5, lowA, _, hb5⟩
                  first | have TT := hid ((hb5.block wc.heap.size (lt_alloc wc _)).trans (heap_new wc _)) | skip
                  have lowA : ∀ ad, a5 = some ad → wc.heap.size ≤ ad.block := fun ad h => by have := lowA ad h; first | exact this | (simp at this; omega)
                  have hb5 : Below wc.heap.size wc w5' := by first | exact chainA hb5 | exact ((Below.refl _ _).alloc (Nat.le_refl _) _).trans ((chainA hb5).mono (by simp))
                  have U5 := hid (HV.out.below hb5)
                  have O5 := hid (off_low (n := un) (c := ca5) lowA HV.out.fld.lt)
                  have HA5 := hid hA5
                  have hs5 := hb5.size)
               | (go_at_call_of 58 (Value.agg #[.int .i64 (R : Int), .int .i64 (R : Int), .slice (some ⟨ab, ao, none⟩) un cap])
                  refine (own_any R R _ un cap _ _ (by first | exact U5.out.hA | exact U5.out.hA.alloc _) (by intro h; cases h) (by omega)).mono ?_
                  rintro e w6' ⟨a6, ca6, rfl, hca6, hA6, lowc, _, hb6⟩
                  first | have TT := hid ((hb6.block _ (lt_of_heap TT.out)).trans TT.out) | have TT := hid ((hb6.block w5'.heap.size (lt_alloc w5' _)).trans (heap_new w5' _)) | skip
                  have lowc : ∀ ad, a6 = some ad → w5'.heap.size ≤ ad.block := fun ad h => by have := lowc ad h; first | exact this | (simp at this; omega)
                  have hb6 : Below w5'.heap.size w5' w6' := by first | exact hb6 | exact ((Below.refl _ _).alloc (Nat.le_refl _) _).trans (hb6.mono (by simp))
                  have U6 := hid (U5.out.below hb6)
                  have O6 := hid (off_low (n := un) (c := ca6) lowc U5.out.fld.lt)
                  have HA5 := hid (HA5.out.below hb6)
                  have HA6 := hid hA6
                  have hs6 := hb6.size)
               | (go_at_call 67
                  have hF6 := U6.out.fld
                  refine (prodU fb R un ca5 ca6 a5 a6 (invM M R) M _ (by first | exact hF6 | exact hF6.alloc _) h1 (by omega) HN.out hca5 hca6 (invM_lt HML.out R) (by first | exact HA5.out | exact HA5.out.alloc _) (by first | exact HA6.out | exact HA6.out.alloc _) O5.out O6.out (fun i j hi hj => inv_left HML.out R hfull i j hi hj)).mono ?_
                  rintro e w7' ⟨ob, hob, rfl, hR7, hF7, hk7⟩
                  first | have TO := Nat.ne_of_lt (Nat.lt_of_lt_of_le (lt_of_heap TT.out) hob) | have TO : w6'.heap.size ≠ ob := Nat.ne_of_lt (Nat.lt_of_lt_of_le (lt_alloc w6' _) hob) | skip
                  first | have TF := ne_of_cells TT.out hF6 | have TF : w6'.heap.size ≠ fb := Nat.ne_of_gt hF6.lt | skip
                  first | have TT := hid ((hk7.block _ (lt_of_heap TT.out) (ne_of_cells TT.out hF6)).trans TT.out) | have TT := hid ((hk7.block w6'.heap.size (lt_alloc w6' _) (Nat.ne_of_gt hF6.lt)).trans (heap_new w6' _)) | skip
                  have hob : w6'.heap.size ≤ ob := by first | exact hob | (simp at hob; omega)
                  have hk7 : Kept fb w6' w7' := by first | exact hk7 | exact ((Kept.refl _ _).alloc _).trans hk7
                  have hs7 := hk7.size
                  have hlf := hF6.lt
                  have K7 := hid (((Kept.of_below hb5).trans (Kept.of_below hb6)).trans hk7)
                  have U7 := hid (U6.out.step hk7 hF7)
                  first | (have t0 := (c3_of TT.out).c0; have t1 := (c3_of TT.out).c1; have t2 := (c3_of TT.out).c2; have u0 := (c3_of TT.out).f0; have u1 := (c3_of TT.out).f1; have u2 := (c3_of TT.out).f2) | skip))
        all_goals first
          | (have LV := hid (leaf_set3 TT.out HV.out K7.out hF7 hR7 (by omega) TO TF (by omega)))
          | (have LV := hid (leaf_alloc HV.out K7.out hF7 hR7 (by omega)))
        all_goals
          go_wp2_with fail
          go_meet
          exact ⟨_, ob, rfl, rfl, hid LV.out.1, hid LV.out.2.1, hid (HP.out.step LV.out.2.2)⟩
      case rest =>
        obtain ⟨tb2, ob2, rfl, rfl, HU, HQ, HP1⟩ := hcut
        obtain ⟨d0, d1, d2, _, _, _⟩ := c3_of HU.out.bu
        clear HV HP
        go_wp2_with fail
        refine (Valid_yes R R un _ uc h1 (by omega) h1 (by omega) HN.out _).mono ?_
        rintro e wD ⟨rfl, hbD⟩
        have UD := hid (HU.out.below hbD)
        have QD := hid (HQ.out.step (Kept.of_below hbD))
        have PD := hid (HP1.out.step (Kept.of_below hbD))
        clear d0 d1 d2 hbD HU HQ HP1
        obtain ⟨d0, d1, d2, _, _, _⟩ := c3_of UD.out.bu
        obtain ⟨f0, f1, f2, _, _, _⟩ := c3_of PD.out.bx
        go_wp2_with fail
        refine (lsame_yes R R _ _ un un un uc (flat R R idM) _ (PD.out.bs HN.out) UD.out.hU).mono ?_
        rintro e wE ⟨rfl, hbE⟩
        have UE := hid (UD.out.below hbE)
        have QE := hid (QD.out.step (Kept.of_below hbE))
        clear d0 d1 d2 f0 f1 f2 hbE UD QD PD
        obtain ⟨d0, d1, d2, _, _, _⟩ := c3_of UE.out.bu
        obtain ⟨f0, f1, f2, _, _, _⟩ := c3_of QE.out.bx
        go_wp2_with fail
        refine (lsame_yes R R _ _ un un un uc (flat R R idM) _ (QE.out.bs HN.out) UE.out.hU).mono ?_
        rintro e wG ⟨rfl, hbG⟩
        have UG := hid (UE.out.below hbG)
        clear d0 d1 d2 f0 f1 f2 hbG UE QE
        go_wp2_with fail
        refine (known_any _).mono ?_
        rintro e wH ⟨rfl, hbH⟩
        go_wp2
        go_ret
        exact ⟨rfl, known_end UG.out.bel hbH⟩
end Go.Proofs.Ytndkcabmaigneaa
