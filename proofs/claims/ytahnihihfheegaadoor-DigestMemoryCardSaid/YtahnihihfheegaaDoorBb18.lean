/-
  A law's call of Make: what its region leaves, whatever Make answers. · All blocks but some are kept. · A copy that may be written: bytes.Clone. · Bytes and EncodeManifest, whose result may be written. · SamePieces of the reference, where the two lists are the same. · DigestMemory: what its walk leans on.
-/
import Derived.Test.YtahnihihfheegaaDoorBb17
import Derived.Test.YtahnihihfheegaaDoorBb1
import Derived.Test.YtahnihihfheegaaDoorBb7
import Derived.Test.YtahnihihfheegaaDoorBb10
import Derived.Test.YtahnihihfheegaaDoorBb2
import Derived.Deep.RegionLaw
import Derived.Test.YtahnihihfheegaaDoorBb16
import Derived.Test.YtahnihihfheegaaDoorBb15
import Derived.Deep.DeepCutAuto
namespace Go.Proofs.YtahnihihfheegaaDoor
open Go Go.RowKit
set_option linter.unusedVariables false

theorem off_lowM {a : Option Addr} {n c B fb : Nat} (h : ∀ ad, a = some ad → B ≤ ad.block) (hB : fb < B) : Off fb (.slice a n c) := by
  cases a with
  | none => trivial
  | some ad => show ad.block ≠ fb; have := h ad rfl; omega
theorem nil_ownsM {w : World} {base m n c : Nat} {a : Option Addr} {xs : List Value} (h : w.ownsRow base 5 1 (.slice a n c) m xs) : a = none → c = 0 := fun e => by
  rcases h.2 with ⟨h1, _⟩ | ⟨g, cap, cur, h1, _⟩
  · simp only [Value.slice.injEq] at h1
    exact h1.2.2
  · simp only [Value.slice.injEq] at h1
    rw [h1.1] at e
    cases e
theorem owns_belowX {w w' : World} {base m s : Nat} {e : TypeId} {v : Value} {xs : List Value} (h : w.ownsRow base e s v m xs) (k : Below w.heap.size w w') : w'.ownsRow base e s v m xs := by
  obtain ⟨h1, h2⟩ := h
  exact ⟨h1, h2.imp id fun ⟨g, cap, cur, h3, h4, h5, r⟩ => ⟨g, cap, cur, h3, h4, (k.block g (lt_of_heap h5)).trans h5, r⟩⟩
theorem off_typeX {w : World} {base m n c : Nat} {a : Option Addr} {xs : List Value} (h : w.ownsRow base 5 1 (.slice a n c) m xs) {p : Nat} {cs : Array Value} {T : TypeId} {fr : Nat × Nat} (hp : w.heap[p]? = some (.cells cs T fr)) (hT : T ≠ 5) : Off p (.slice a n c) := by
  rcases h.2 with ⟨h1, _⟩ | ⟨g, cap, cur, h1, _, h3, _⟩
  · simp only [Value.slice.injEq] at h1
    rw [h1.1]; trivial
  · simp only [Value.slice.injEq] at h1
    rw [h1.1]
    show g ≠ p
    rintro rfl
    rw [h3] at hp
    simp at hp
    exact hT hp.2.1.symm
/-- the manifest mb, the pieces and the error that a call of Make, begun at wS and ended at wE, has left -/
structure MdX (fb : Nat) (Post : World → World → Array Value → Value → Value → Prop) (mb : Nat) (M : Array Value) (pv ev : Value) (w1 w : World) : Prop where
  ex : ∃ wS wE, Below w1.heap.size w1 wS ∧ Post wS wE M pv ev ∧ Kept fb wS wE ∧ (mb < wS.heap.size ∨ wE.heap.size ≤ mb) ∧ (∀ q, q < wE.heap.size → q ≠ mb → w.heap[q]? = wE.heap[q]?) ∧ wE.heap.size ≤ w.heap.size
  at_ : w.heap[mb]? = some (.cells M 27 (0, 0))
  low : w1.heap.size ≤ mb
  up : mb < w.heap.size
  kept : Kept fb w1 w
theorem mdx_late {fb mb : Nat} {Post : World → World → Array Value → Value → Value → Prop} {M : Array Value} {pv ev : Value} {w1 wS wE wA wZ : World} (hS : Below w1.heap.size w1 wS) (hP : Post wS wE M pv ev) (hE : Kept fb wS wE)
    (hmb : mb = wE.heap.size) (hA : Below wE.heap.size wE wA) (hml : mb < wA.heap.size) (hZ : wZ.heap[mb]? = some (.cells M 27 (0, 0))) (hk : Kept mb wA wZ) : MdX fb Post mb M pv ev w1 wZ := by
  have h1 := hS.size
  have h2 := hE.size
  have h3 := hA.size
  have h4 := hk.size
  refine ⟨⟨wS, wE, hS, hP, hE, .inr (by omega), fun q hq hne => (hk.block q (by omega) hne).trans (hA.block q hq), by omega⟩, hZ, by omega, by omega, ?_⟩
  exact (((Kept.of_below hS).trans hE).trans (Kept.of_below hA)).fresh hk (by omega)
theorem mdx_early {fb mb : Nat} {Post : World → World → Array Value → Value → Value → Prop} {M : Array Value} {pv ev : Value} {w1 wS wE wZ : World} (hS : Below w1.heap.size w1 wS) (hP : Post wS wE M pv ev) (hE : Kept fb wS wE)
    (hlo : w1.heap.size ≤ mb) (hml : mb < wS.heap.size) (hZ : wZ.heap[mb]? = some (.cells M 27 (0, 0))) (hk : Kept mb wE wZ) : MdX fb Post mb M pv ev w1 wZ := by
  have h1 := hS.size
  have h2 := hE.size
  have h4 := hk.size
  refine ⟨⟨wS, wE, hS, hP, hE, .inl hml, fun q hq hne => hk.block q hq hne, by omega⟩, hZ, hlo, by omega, ?_⟩
  exact ((Kept.of_below hS).trans hE).fresh hk hlo
/-- what Make answers where its arguments are right -/
def MkPost (fb k n t m : Nat) (l : List Nat) (wS wE : World) (M : Array Value) (pv ev : Value) : Prop :=
  ∃ rb mb0 g gd bf, MkN fb rb mb0 g gd t bf wS ∧ M = (mcells k n t m (dig shaRound shaStart l) (.slice (some ⟨gd, 0, none⟩) t t)).toArray ∧ pv = .slice (some ⟨g, 0, none⟩) t t ∧ ev = .int .i64 0 ∧ MkR fb mb0 g gd k t m (plen k m) shaRound shaStart l bf wS wE
theorem MdX.good {fb k n t m mb : Nat} {l : List Nat} {M : Array Value} {pv ev : Value} {w1 w : World} (h : MdX fb (MkPost fb k n t m l) mb M pv ev w1 w) (hfb : fb < w1.heap.size) :
    ∃ g gd bf, pv = .slice (some ⟨g, 0, none⟩) t t ∧ ev = .int .i64 0 ∧ MdR fb k n t m l mb g gd bf w1 w := by
  obtain ⟨wS, wE, hS, ⟨rb, mb0, g, gd, bf, N, rfl, rfl, rfl, R⟩, hE, hor, hb, hsz⟩ := h.ex
  obtain ⟨n1, n2, n3, n4, n5⟩ := N.ne
  obtain ⟨l1, l2, l3, l4, l5, l6⟩ := N.low
  have hs := hS.size
  have hEs := hE.size
  have hgl := R.pcs.own.lt
  have hgdl := R.gdl
  have hfl := R.built.lt
  have hlo := h.low
  have hbf : ∀ j, j < t → wS.heap.size ≤ bf j ∧ bf j < wE.heap.size := fun j hj => ⟨R.pcs.low j hj, (R.pcs.row j hj).lt⟩
  refine ⟨g, gd, bf, rfl, rfl, h.at_, ⟨(hb g hgl (by omega)).trans R.pcs.own, fun j hj => (hb _ (hbf j hj).2 (by have := hbf j hj; omega)).trans (R.pcs.row j hj), fun j hj => Nat.le_trans hs (R.pcs.low j hj), R.pcs.inj, R.pcs.notb⟩, fun j hj => range_same (R.rng j hj) (hb gd hgdl (by omega)), there_same R.th (hb gd hgdl (by omega)), (hb fb hfl (by omega)).trans R.built, h.kept, ⟨n1, by omega, by omega, fun j hj => ⟨N.bfn j hj, by have := hbf j hj; omega⟩⟩, ⟨hlo, by omega, by omega⟩, ⟨h.up, by omega, by omega, fun j hj => by have := hbf j hj; omega⟩⟩
/-- what Make leaves stays through what keeps all blocks but the field's -/
theorem MdR.step {fb k n t m mb g gd : Nat} {l : List Nat} {bf : Nat → Nat} {w1 w w' : World} (h : MdR fb k n t m l mb g gd bf w1 w) (k' : Kept fb w w') (hfb : fb < w1.heap.size) (hbu : Built w' fb) : MdR fb k n t m l mb g gd bf w1 w' := by
  obtain ⟨l1, l2, l3⟩ := h.low
  obtain ⟨u1, u2, u3, u4⟩ := h.up
  have hz := k'.size
  have hb : ∀ q, q < w.heap.size → q ≠ fb → w'.heap[q]? = w.heap[q]? := fun q hq hne => k'.block q hq hne
  have hbl : ∀ j, j < t → w1.heap.size ≤ bf j := fun j hj => h.pcs.low j hj
  exact ⟨(hb mb u1 (by omega)).trans h.man, ⟨(hb g u3 (by omega)).trans h.pcs.own, fun j hj => (hb _ (u4 j hj) (by have := hbl j hj; omega)).trans (h.pcs.row j hj), h.pcs.low, h.pcs.inj, h.pcs.notb⟩, fun j hj => range_same (h.rng j hj) (hb gd u2 (by omega)), there_same h.th (hb gd u2 (by omega)), hbu, h.kept.trans k', h.ne, ⟨l1, l2, l3⟩, ⟨by omega, by omega, by omega, fun j hj => by have := u4 j hj; omega⟩⟩
end Go.Proofs.YtahnihihfheegaaDoor

namespace Go.Proofs.YtahnihihfheegaaDoor
open Go Go.RowKit
set_option linter.unusedVariables false

/-- in w' all blocks of w but those in P are as they were -/
structure KeptX (P : Nat → Prop) (w w' : World) : Prop where
  os : w'.os = w.os
  tape : w'.tape = w.tape
  output : w'.output = w.output
  size : w.heap.size ≤ w'.heap.size
  block : ∀ k, k < w.heap.size → ¬ P k → w'.heap[k]? = w.heap[k]?
theorem KeptX.refl (P : Nat → Prop) (w : World) : KeptX P w w := ⟨rfl, rfl, rfl, Nat.le_refl _, fun _ _ _ => rfl⟩
theorem KeptX.setCell {P : Nat → Prop} {w w' : World} (h : KeptX P w w') {p : Addr} (hp : P p.block) (u : Value) : KeptX P w (w'.setCell p u) :=
  ⟨h.os, h.tape, h.output, by simpa using h.size, fun k hk hn => (Below.heap_setCell _ _ _ _ (fun e => hn (by rw [e]; exact hp))).trans (h.block k hk hn)⟩
theorem KeptX.heap {P : Nat → Prop} {w w' : World} (h : KeptX P w w') {b : Nat} {o : Obj} (hb : w.heap[b]? = some o) (hn : ¬ P b) : w'.heap[b]? = some o := (h.block b (lt_of_heap hb) hn).trans hb
theorem KeptX.below {P : Nat → Prop} {W w w' : World} (h : KeptX P w w') (hb : Below W.heap.size W w) (hn : ∀ b, b < W.heap.size → ¬ P b) : Below W.heap.size W w' :=
  ⟨h.os.trans hb.os, h.tape.trans hb.tape, h.output.trans hb.output, Nat.le_trans hb.size h.size, fun k hk => (h.block k (Nat.lt_of_lt_of_le hk hb.size) (hn k hk)).trans (hb.block k hk)⟩
theorem KeptX.trans {P : Nat → Prop} {x y z : World} (h : KeptX P x y) (k : KeptX P y z) : KeptX P x z :=
  ⟨k.os.trans h.os, k.tape.trans h.tape, k.output.trans h.output, Nat.le_trans h.size k.size, fun i hi hb => (k.block i (Nat.lt_of_lt_of_le hi h.size) hb).trans (h.block i hi hb)⟩
theorem KeptX.of_kept {P : Nat → Prop} {b : Nat} {w w' : World} (h : Kept b w w') (hb : P b) : KeptX P w w' := ⟨h.os, h.tape, h.output, h.size, fun k hk hn => h.block k hk (fun e => hn (e ▸ hb))⟩
theorem KeptX.mono {P Q : Nat → Prop} {w w' : World} (h : KeptX P w w') (hpq : ∀ b, P b → Q b) : KeptX Q w w' := ⟨h.os, h.tape, h.output, h.size, fun k hk hn => h.block k hk (fun e => hn (hpq k e))⟩
end Go.Proofs.YtahnihihfheegaaDoor

namespace Go.Proofs.YtahnihihfheegaaDoor
open Go Go.RowKit
set_option linter.unusedVariables false

/-- a copy of bytes in memory of its own, which may be written -/
def Copied2 (w : World) (n : Nat) (l : List Nat) (e : Value) (w' : World) : Prop := ∃ a c, e = .slice a n c ∧ n ≤ c ∧ Bs w' (.slice a n c) l ∧ (a = none → c = 0) ∧ (∀ ad, a = some ad → w.heap.size ≤ ad.block ∧ ad.block < w'.heap.size) ∧ Below w.heap.size w w' ∧ w'.ownsRow w.heap.size 5 1 (.slice a n c) n (u8s l)
set_option maxRecDepth 100000 in
set_option maxHeartbeats 2000000 in
theorem Clone2_any (a : Option Addr) (n c : Nat) (l : List Nat) (w : World) (hb : Bs w (.slice a n c) l) (hnil : a = none → c = 0) (hn : n ≤ 100000000000) :
    Calls Tryd.prog 67 #[.slice a n c] w fun e w' => ∃ v, e = .returned v ∧ Copied2 w n l v w' := by
  cases a with
  | none =>
    obtain rfl := hnil rfl
    have h0 : l = [] := by
      rcases hb.addr with ⟨h0, _⟩ | ⟨_, b, o, c', hv⟩
      · exact h0
      · simp at hv
    subst h0
    have hn0 : n = 0 := hb.len
    subst hn0
    have HB := hid hb
    have hq : (binOp .eql 22 (.slice none 0 0) (.slice none 0 0)).run Tryd.prog w = .ok (.bool true) w := run_eql_slice_nil w _ _ none 0 0 Tryd.underlying22
    clear hb
    go_enter Tryd.func67, Tryd.ntmps67
    go_wp2
    go_ret
    exact ⟨_, rfl, none, 0, rfl, Nat.le_refl _, HB.out, fun _ => rfl, (fun ad h => by cases h), Below.refl _ _, owns_nilD _ _⟩
  | some ad =>
    have HB := hid (hb.alloc (.cells #[] 5))
    have HNW := hid (heap_new w (.cells #[] 5))
    have hq : (binOp .eql 22 (.slice (some ad) n c) (.slice none 0 0)).run Tryd.prog w = .ok (.bool false) w := run_eql_slice_nil w _ _ (some ad) n c Tryd.underlying22
    clear hb hnil
    go_enter Tryd.func67, Tryd.ntmps67
    go_wp2_with (refine wpList_cloneB (by rfl) (.tmp 5) (.tmp 6) (by rfl) w.heap.size (by rfl) HNW.out (some ad) n c l (by rfl) HB.out (fun h => by cases h) (by omega) ?_
                 intro a5 c5 w5 hb5 hc5 hw5 hn5 hk5 hown5)
    go_ret
    refine ⟨_, rfl, a5, c5, rfl, hc5, hb5, hn5, fun q hq => hw5 q hq, ?_, hown5⟩
    exact (((Below.refl w.heap.size w).alloc (Nat.le_refl _) (.cells #[] 5))).trans (hk5.below (by simp) (Nat.le_refl _))
/-- a copy that may be written, or no bytes -/
def CpB (w : World) (g c m : Nat) (a : Option Addr) : Prop := 0 < m → a = some ⟨g, 0, none⟩ ∧ ∃ l : List Nat, l.length = m ∧ (∀ i, l.getD i 0 < 256) ∧ Buf w g c l
theorem set_ltB (l : List Nat) (h : ∀ i, l.getD i 0 < 256) (j y : Nat) (hy : y < 256) : ∀ i, (l.set j y).getD i 0 < 256 := fun i => by
  rw [List.getD_eq_getElem?_getD, List.getElem?_set]
  split
  · split
    · exact hy
    · decide
  · rw [← List.getD_eq_getElem?_getD]; exact h i
theorem cpB_of {w : World} {g0 c m : Nat} {a : Option Addr} {l : List Nat} (h : w.ownsRow g0 5 1 (.slice a m c) m (u8s l)) (hg : g0 < w.heap.size) (hl : ∀ i, l.getD i 0 < 256) : ∃ g, g0 ≤ g ∧ g < w.heap.size ∧ CpB w g c m a := by
  by_cases h0 : 0 < m
  · obtain ⟨g, h1, h2, h3, h4⟩ := buf_of_owns h h0
    exact ⟨g, h2, h3.lt, fun _ => ⟨h1, l, h4.symm, hl, h3⟩⟩
  · exact ⟨g0, Nat.le_refl _, hg, fun h => absurd h h0⟩
theorem CpB.same {w w' : World} {g c m : Nat} {a : Option Addr} (h : CpB w g c m a) (k : w'.heap[g]? = w.heap[g]?) : CpB w' g c m a := fun h0 => by
  obtain ⟨h1, l, h2, h3, h4⟩ := h h0
  exact ⟨h1, l, h2, h3, h4.of_same k⟩
end Go.Proofs.YtahnihihfheegaaDoor

namespace Go.Proofs.YtahnihihfheegaaDoor
open Go Go.RowKit
set_option linter.unusedVariables false

/-- what Bytes answers -/
def BytesRes2 (f : Bool) (n : Nat) (l : List Nat) (w : World) (e : Ending) (w' : World) : Prop :=
  (f = true → e = .returned (.tuple #[.slice none 0 0, .int .i64 3]) ∧ w = w') ∧ (f = false → ∃ u, e = .returned (.tuple #[u, .int .i64 0]) ∧ Copied2 w n l u w')

set_option maxRecDepth 100000 in
set_option maxHeartbeats 2000000 in
theorem Bytes2_any (wb lim : Nat) (v : Value) (l : List Nat) (f : Bool) (w : World) (W : WrAt w wb lim v l f) :
    Calls Tryd.prog 48 #[.pointer (some ⟨wb, 0, none⟩)] w fun e w' => BytesRes2 f l.length l w e w' := by
  have c2 : w.cell? ⟨wb, 2, none⟩ = some (.bool f) := by rw [cell_of_heap W.at_]; rfl
  have c1 : w.cell? ⟨wb, 1, none⟩ = some v := by rw [cell_of_heap W.at_]; rfl
  obtain ⟨a, c, rfl, hc, hb⟩ := W.sl
  have hnil : a = none → c = 0 := fun e => by
    rcases W.own.2 with ⟨h, _⟩ | ⟨g, cap, cur, h, _⟩
    · simp only [Value.slice.injEq] at h; exact h.2.2
    · simp only [Value.slice.injEq] at h; rw [e] at h; cases h.1
  have HC := hid (Clone2_any a l.length c l w hb hnil (Nat.le_trans W.fit W.cap))
  clear hb hnil hc W
  cases f with
  | true =>
    go_enter Tryd.func48, Tryd.ntmps48
    go_wp2
    go_ret2
    exact ⟨fun _ => ⟨rfl, rfl⟩, fun h => by cases h⟩
  | false =>
    generalize hm : l.length = m at *
    have HM := hid (fun (_ : Unit) => hm)
    clear hm
    go_enter Tryd.func48, Tryd.ntmps48
    go_wp2_with fail
    refine HC.out.mono ?_
    rintro e w2 ⟨u, rfl, h⟩
    go_wp2
    go_ret2
    exact ⟨fun h => (by cases h), fun _ => ⟨u, rfl, h⟩⟩

set_option maxRecDepth 100000 in
set_option maxHeartbeats 4000000 in
theorem EncodeM2_any (k n t s : Nat) (od : List Nat) (D : List (List Nat)) (v : Value) (h : od.length = 32) (hol : ∀ x ∈ od, x < 256) (w : World) (hD : DgAt w v D) (hok : manB k n t s D.length = true) :
    Calls Tryd.prog 22 #[.agg (mcells k n t s od v).toArray] w fun e w' => ∃ u, e = .returned (.tuple #[u, .int .i64 0]) ∧ ∃ wx, Copied2 wx (7 + 32 * (1 + t)) (encTo k n t s od D t) u w' ∧ Below w.heap.size w wx := by
  obtain ⟨a, c, rfl, hDl, hDc⟩ := hD
  have hM : ManAt (w.alloc (.cells (mcells k n t s od (.slice a D.length c)).toArray 27)) w.heap.size k n t s od (.slice a D.length c) := heap_new _ _
  have HM := hid hM
  have HB := hid ((Below.refl w.heap.size w).alloc (Nat.le_refl _) (.cells (mcells k n t s od (.slice a D.length c)).toArray 27))
  have HIF := hid (show (Tryd.prog.info? 27).map (·.size) = some (mcells k n t s od (.slice a D.length c)).length from by rw [mcells_length _ _ _ _ _ _ h]; kernel_rfl)
  have HC := hid (fun w => CheckManifest_any k n t s od a D.length c h w)
  have hme : manE k n t s D.length = 0 := by unfold manE; rw [if_pos hok]
  rw [hme] at HC
  have hnum : 1 ≤ k ∧ k ≤ n ∧ n ≤ t ∧ t ≤ 255 ∧ s ≤ 8192 ∧ D.length = t := by
    unfold manB vnB vcB at hok
    simp only [Bool.and_eq_true, decide_eq_true_eq] at hok
    omega
  obtain ⟨w1, hw1⟩ : ∃ w1, w1 = w.alloc (.cells (mcells k n t s od (.slice a D.length c)).toArray 27) := ⟨_, rfl⟩
  rw [← hw1] at HB HM
  have hs1 : w.heap.size < w1.heap.size := by rw [hw1]; simp
  have HRA := hid (show w1.rangeAt w.heap.size 0 (mcells k n t s od (.slice a D.length c)) from fun j v hj => by
    rw [Nat.zero_add, cell_of_heap HM.out, List.getElem?_toArray]
    exact hj)
  have HH := hid h
  have HOL := hid hol
  have HDL := hid hDl
  have HDC := hid hDc
  have HN := hid hnum
  clear hM h hol hDl hDc hok hme hnum
  go_enter Tryd.func22, Tryd.ntmps22
  go_upto_region 1 with fail
  change Code.wp _ _ _ _ (w.alloc (.cells (mcells k n t s od (.slice a D.length c)).toArray 27))
  rw [← hw1]
  clear hw1
  go_wp2_with (refine wpList_load_mid (by rfl) 27 (.tmp 1) (by rfl) w.heap.size 0 (by rfl) (mcells k n t s od (.slice a D.length c)) _ HRA.out Tryd.underlying27 rfl HIF.out ?_)
  refine (HC.out w1).mono ?_
  rintro e w2 ⟨rfl, hb2⟩
  have HM2 := hid (show ManAt w2 w.heap.size k n t s od (.slice a D.length c) from (hb2.block _ hs1).trans HM.out)
  have HB2 := hid (HB.out.trans (hb2.mono (by omega)))
  obtain ⟨c0, c1, c2, c3, c36⟩ := HM2.out.c HH.out
  have hs2 : w.heap.size < w2.heap.size := Nat.lt_of_lt_of_le hs1 hb2.size
  clear hb2 HM HB HIF HC HRA
  go_wp2_with fail
  refine (manifestSize_any t (by have := HN.out; omega) w2).mono ?_
  rintro e w3 ⟨rfl, rfl⟩
  go_wp2_with fail
  refine (NewWriter_any (7 + 32 * (1 + t)) (by have := HN.out; omega) w2).mono ?_
  rintro e w3 ⟨rfl, hW3, hb3⟩
  have HCE := hid (show ∀ wx, Below w2.heap.size w2 wx → wx.cell? ⟨w.heap.size, 0, none⟩ = some (.int .i64 (k : Int)) ∧ wx.cell? ⟨w.heap.size, 1, none⟩ = some (.int .i64 (n : Int)) ∧ wx.cell? ⟨w.heap.size, 2, none⟩ = some (.int .i64 (t : Int)) ∧ wx.cell? ⟨w.heap.size, 3, none⟩ = some (.int .i64 (s : Int)) ∧ wx.cell? ⟨w.heap.size, 36, none⟩ = some (.slice a D.length c) from fun wx hb => ManAt.c ((hb.block _ hs2).trans HM2.out) HH.out)
  obtain ⟨hk1, hkn, hnt, ht, hs8, hDt⟩ := HN.out
  clear c0 c1 c2 c3 c36
  have I1 := hid (show EncI w2 w3 (7 + 32 * (1 + t)) [] from ⟨_, hW3, hb3⟩)
  clear hW3 hb3
  obtain ⟨lim, hlim⟩ : ∃ lim, lim = 7 + 32 * (1 + t) := ⟨_, rfl⟩
  rw [← hlim] at I1
  have hl40 : 39 + 32 * t ≤ lim := by omega
  have HLIM := hid hlim
  clear hlim
  have q1 : IntKind.u8.wrap (k : Int) = (k : Int) := by rw [IntKind.wrap_u8]; omega
  have q2 : IntKind.u8.wrap (n : Int) = (n : Int) := by rw [IntKind.wrap_u8]; omega
  have q3 : IntKind.u8.wrap (t : Int) = (t : Int) := by rw [IntKind.wrap_u8]; omega
  have q4 : IntKind.u16.wrap (s : Int) = (s : Int) := by rw [IntKind.wrap_u16]; omega
  obtain ⟨v1, V1, B1⟩ := I1.out
  go_wp2_with fail
  refine (U8_any w2.heap.size lim 77 v1 [] false w3 V1 (by decide)).mono ?_
  rintro e w4 ⟨rfl, hA⟩
  have hI := EncI.step V1 B1 hA (by simp [beL_length]; omega)
  have I2 := hid hI
  clear hA hI V1 B1
  obtain ⟨v2, V2, B2⟩ := I2.out
  go_wp2_with fail
  refine (U8_any w2.heap.size lim 1 v2 _ false w4 V2 (by decide)).mono ?_
  rintro e w5 ⟨rfl, hA⟩
  have hI := EncI.step V2 B2 hA (by simp [beL_length]; omega)
  have I3 := hid hI
  clear hA hI V2 B2
  obtain ⟨v3, V3, B3⟩ := I3.out
  have d0 := (HCE.out w5 B3).1
  go_wp2_with fail
  refine (U8_any w2.heap.size lim k v3 _ false w5 V3 (by show k < 256; omega)).mono ?_
  rintro e w6 ⟨rfl, hA⟩
  have hI := EncI.step V3 B3 hA (by simp [beL_length]; omega)
  have I4 := hid hI
  clear hA hI V3 B3
  obtain ⟨v4, V4, B4⟩ := I4.out
  have d1 := (HCE.out w6 B4).2.1
  go_wp2_with fail
  refine (U8_any w2.heap.size lim n v4 _ false w6 V4 (by show n < 256; omega)).mono ?_
  rintro e w7 ⟨rfl, hA⟩
  have hI := EncI.step V4 B4 hA (by simp [beL_length]; omega)
  have I5 := hid hI
  clear hA hI V4 B4
  obtain ⟨v5, V5, B5⟩ := I5.out
  have d2 := (HCE.out w7 B5).2.2.1
  go_wp2_with fail
  refine (U8_any w2.heap.size lim t v5 _ false w7 V5 (by show t < 256; omega)).mono ?_
  rintro e w8 ⟨rfl, hA⟩
  have hI := EncI.step V5 B5 hA (by simp [beL_length]; omega)
  have I6 := hid hI
  clear hA hI V5 B5
  obtain ⟨v6, V6, B6⟩ := I6.out
  have d3 := (HCE.out w8 B6).2.2.2.1
  go_wp2_with fail
  refine (U16_any w2.heap.size lim s v6 _ false w8 V6 (by show s < 65536; omega)).mono ?_
  rintro e w9 ⟨rfl, hA⟩
  have hI := EncI.step V6 B6 hA (by simp [beL_length]; omega)
  have I7 := hid hI
  clear hA hI V6 B6
  clear d0 d1 d2 d3
  obtain ⟨v7, V7, B7⟩ := I7.out
  go_wp2_with fail
  have M9 : ManAt w9 w.heap.size k n t s od (.slice a D.length c) := (B7.block _ hs2).trans HM2.out
  have hne : w.heap.size ≠ w2.heap.size := by omega
  refine (Raw_any w2.heap.size lim 32 32 (some ⟨w.heap.size, 4, none⟩) v7 _ od false w9 V7 (M9.od HH.out HOL.out) (fun h => by cases h) (by omega) (fun ad h _ => by
    cases h
    exact ⟨hne, fun e => by
      have h9 : w2.heap.size + 1 ≤ w.heap.size := (V7.own.lt _ e).1
      omega⟩)).mono ?_
  rintro e w10 ⟨rfl, hA⟩
  have hI := EncI.step V7 B7 hA (by
    have ho := HH.out
    simp only [List.length_append, List.length_nil, beL_length]
    omega)
  obtain ⟨L, hL⟩ : ∃ L, L = [] ++ beL 77 1 ++ beL 1 1 ++ beL k 1 ++ beL n 1 ++ beL t 1 ++ beL s 2 ++ od := ⟨_, rfl⟩
  rw [← hL] at hI
  have hLl : L.length = 39 := by rw [hL]; simp [beL_length, HH.out]
  have HL := hid hL
  have I8 := hid hI
  clear hA hI V7 B7 I7 M9 hL
  obtain ⟨v8, V8, B8⟩ := I8.out
  have d36 := (HCE.out w10 B8).2.2.2.2
  rw [hDt] at d36
  clear V8 B8
  have hwb : w2.heap.size ≤ w10.heap.size := by obtain ⟨_, _, B⟩ := I8.out; exact B.size
  go_wp2
  go_loopw [48] (fun iv wr => ∃ i : Nat, i ≤ t ∧ iv = .int .i64 i ∧ Hid (EncI w2 wr lim (L ++ (D.take i).flatten)) ∧ Hid ((D.take i).flatten.length = 32 * i)) (fun iv _ => t - (intOf iv).toNat)
  case atStart => exact ⟨0, by omega, rfl, hid (by simpa using I8.out), hid (by simp)⟩
  case round =>
    clear I8
    obtain ⟨i, hi, rfl, I9, HFL⟩ := hrel
    by_cases hit : i < t
    · have hI : (i : Int) < (t : Int) := by omega
      have hDne : D ≠ [] := by intro h0; rw [h0] at hDt; simp at hDt; omega
      obtain ⟨b, o, rfl, hrg⟩ := HDC.out hDne
      have hr := hrg i (by omega)
      obtain ⟨d, hd⟩ : ∃ d, d = D.getD i [] := ⟨_, rfl⟩
      have hdm : d ∈ D := by rw [hd, List.getD_eq_getElem?_getD, List.getElem?_eq_getElem (by omega)]; exact List.getElem_mem _
      obtain ⟨hd32, hdl⟩ := HDL.out d hdm
      obtain ⟨v9, V9, B9⟩ := I9.out
      rw [← hd] at hr
      have HR := hid (range_below hr (HB2.out.trans (B9.mono (by omega))))
      have HIFD := hid (show (Tryd.prog.info? 24).map (·.size) = some (u8s d).length from by rw [show (u8s d).length = 32 from by simp [u8s, hd32]]; kernel_rfl)
      have HIFA := hid (show (Tryd.prog.info? 24).map (·.size) = some (u8s d).toArray.size from by rw [List.size_toArray, show (u8s d).length = 32 from by simp [u8s, hd32]]; kernel_rfl)
      have HOLD := hid (show (u8s (List.replicate 32 0)).toArray.size = (u8s d).toArray.size from by rw [List.size_toArray, List.size_toArray]; simp [u8s, hd32])
      have HONE := hid (show (u8s d).toArray.all (·.oneCell') = true from all_oneCell_toArray (fun u hu => by
        unfold u8s at hu
        obtain ⟨y, _, rfl⟩ := List.mem_map.1 hu
        rfl))
      have HNW := hid (show (wr.alloc (.cells (u8s (List.replicate 32 0)).toArray 24)).heap[wr.heap.size]? = _ from heap_new _ _)
      have HBA := hid (B9.alloc B9.size (.cells (u8s (List.replicate 32 0)).toArray 24))
      have HST := hid (show (D.take i).flatten ++ d = (D.take (i + 1)).flatten from by
        rw [hd, List.take_add_one, List.getD_eq_getElem?_getD, List.getElem?_eq_getElem (by omega)]
        simp only [List.flatten_append, Option.toList_some, List.flatten_cons, List.flatten_nil, List.append_nil, Option.getD_some])
      have HD32 := hid hd32
      have HDLT := hid hdl
      have HV9 := hid V9
      have HB9 := hid B9
      clear hr hrg hd hdm hd32 hdl V9 B9 I9 hDne
      go_wp2_with (first
        | (refine wpList_load_mid (by rfl) 24 (.tmp 50) (by rfl) b (o + i * 32) (by rfl) (u8s d) _ HR.out Tryd.underlying24 rfl HIFD.out ?_)
        | (refine wpList_store_row (by rfl) 24 (.tmp 7) (.tmp 51) (by rfl) wr.heap.size _ (u8s d).toArray _ (by rfl) (by rfl) HNW.out HIFA.out HOLD.out HONE.out ?_
           intro w8 hw8 hk8))
      have hb8 : Below wr.heap.size wr w8 := ((Below.refl wr.heap.size wr).alloc (Nat.le_refl _) (.cells (u8s (List.replicate 32 0)).toArray 24)).trans (hk8.below (by simp) (Nat.le_refl _))
      have hbs8 : Bs w8 (.slice (some ⟨wr.heap.size, 0, none⟩) 32 32) d := ⟨some ⟨wr.heap.size, 0, none⟩, 32, by rw [HD32.out], HDLT.out, fun _ => ⟨_, 0, rfl, fun i hi => by
        rw [Nat.zero_add, cell_of_heap hw8]
        simp [u8s, hi]⟩⟩
      have V10 := HV9.out.below hb8
      have B10 := HB9.out.trans (hb8.mono HB9.out.size)
      have hlt9 := HV9.out.lt_size
      refine (Raw_any w2.heap.size lim 32 32 (some ⟨wr.heap.size, 0, none⟩) v9 _ d false w8 V10 hbs8 (fun h => by cases h) (by omega) (fun ad h _ => by
        cases h
        exact ⟨(by show wr.heap.size ≠ w2.heap.size; omega), fun e => by
          have h9 : wr.heap.size < wr.heap.size := (HV9.out.own.lt _ e).2
          omega⟩)).mono ?_
      rintro e w11 ⟨rfl, hA⟩
      have hI2 := EncI.step V10 B10 hA (by
        have h1 := HFL.out
        have h2 := HD32.out
        simp only [List.length_append]
        omega)
      rw [List.append_assoc, HST.out] at hI2
      have I10 := hid hI2
      have HFL2 := hid (show (D.take (i + 1)).flatten.length = 32 * (i + 1) from by
        have h1 := HFL.out
        have h2 := HD32.out
        rw [← HST.out, List.length_append]
        omega)
      clear hI2 hA V10 B10 hbs8 hb8 hw8 hk8 hlt9
      go_wp2
      exact ⟨⟨i + 1, by omega, by go_num, I10, HFL2⟩, by simp [intOf]; omega⟩
    · have hit2 : i = t := by omega
      obtain ⟨v9, V9, B9⟩ := I9.out
      have HEQ := hid (show L ++ (D.take i).flatten = encTo k n t s od D t from by
        rw [HL.out, hit2]
        unfold encTo encHead
        rw [beL_one 77 (by omega), beL_one 1 (by omega), beL_one k (by omega), beL_one n (by omega), beL_one t (by omega), beL_two s (by omega)]
        rfl)
      have HLEN := hid (show (L ++ (D.take i).flatten).length = 7 + 32 * (1 + t) from by
        have h1 := HFL.out
        rw [List.length_append]
        omega)
      have HBY := hid (Bytes2_any w2.heap.size lim v9 _ false wr V9)
      have HBF := hid (HB2.out.trans (B9.mono (by omega)))
      clear V9 B9
      have hI : ¬ ((i : Int) < (t : Int)) := by omega
      go_wp2_with fail
      refine HBY.out.mono ?_
      rintro e w11 hres
      obtain ⟨u, rfl, hcp⟩ := hres.2 rfl
      rw [HLEN.out, HEQ.out] at hcp
      have HCP := hid hcp
      clear hcp hres
      go_wp2
      go_ret2
      exact ⟨u, rfl, wr, HCP.out, HBF.out⟩
end Go.Proofs.YtahnihihfheegaaDoor

namespace Go.Proofs.YtahnihihfheegaaDoor
open Go.RowKit
set_option linter.unusedVariables false

theorem ps_addr {w : World} {a : Option Addr} {n c : Nat} {ps : List (Int × Sl)} (h : Ps w (.slice a n c) ps) (hn : 0 < n) : n = ps.length ∧ ∃ b o, a = some ⟨b, o, none⟩ ∧ ∀ i, (h : i < ps.length) → w.cell? ⟨b, o + i * 2, none⟩ = some (.int .i64 ps[i].1) ∧ w.cell? ⟨b, o + i * 2 + 1, none⟩ = some (.slice ps[i].2.1 ps[i].2.2.1 ps[i].2.2.2) := by
  obtain ⟨a', c', h1, h2⟩ := h
  simp only [Value.slice.injEq] at h1
  obtain ⟨rfl, rfl, rfl⟩ := h1
  exact ⟨rfl, h2 (fun e => by rw [e] at hn; exact absurd hn (Nat.lt_irrefl 0))⟩

set_option maxRecDepth 100000 in
set_option maxHeartbeats 1000000 in
theorem same_yes (a a' : Option Addr) (n c c' : Nat) (psA psB : List (Int × Sl)) (D : Nat → List Nat) (w : World) (hA : Ps w (.slice a n c) psA) (hB : Ps w (.slice a' n c') psB) (hn : n ≤ 1000000)
    (hix : ∀ i, (h : i < psA.length) → (h' : i < psB.length) → psA[i].1 = psB[i].1)
    (hDA : ∀ i, (h : i < psA.length) → Bs w (.slice psA[i].2.1 psA[i].2.2.1 psA[i].2.2.2) (D i))
    (hDB : ∀ i, (h : i < psB.length) → Bs w (.slice psB[i].2.1 psB[i].2.2.1 psB[i].2.2.2) (D i)) :
    Calls Tryd.prog 23 #[.slice a n c, .slice a' n c'] w fun e w' => e = .returned (.bool true) ∧ Below w.heap.size w w' := by
  have HA := hid hA
  have HB := hid hB
  have HIX := hid hix
  have HDA := hid hDA
  have HDB := hid hDB
  clear hA hB hix hDA hDB
  go_enter Tryd.func23, Tryd.ntmps23
  go_wp2
  go_loopw [5] (fun iv wr => ∃ i : Nat, i ≤ n ∧ iv = .int .i64 i ∧ Below w.heap.size w wr) (fun iv _ => n - (intOf iv).toNat)
  case atStart => exact ⟨0, by omega, rfl, Below.refl _ _⟩
  case round =>
    obtain ⟨i, hi, rfl, hb⟩ := hrel
    have HBEL := hid hb
    clear hb
    by_cases hlt : i < n
    · obtain ⟨hnA, bA, oA, rfl, hcA⟩ := ps_addr (HA.out.below HBEL.out) (by omega)
      obtain ⟨hnB, bB, oB, rfl, hcB⟩ := ps_addr (HB.out.below HBEL.out) (by omega)
      obtain ⟨a0, a1⟩ := hcA i (by omega)
      obtain ⟨b0, b1⟩ := hcB i (by omega)
      have hdA := (HDA.out i (by omega)).below HBEL.out
      have hdB := (HDB.out i (by omega)).below HBEL.out
      rw [HIX.out i (by omega) (by omega)] at a0
      generalize psB[i]'(by omega) = pB at *
      generalize psA[i]'(by omega) = pA at *
      have cvA := fun q => conv_bs (hdA.drewN q)
      have cvB := fun q => conv_bs (hdB.drewN q)
      generalize bstr (D i) = S at *
      clear hcA hcB hnA hnB hdA hdB
      go_wp2
      go_quiet (fail)
      go_wp2
      exact ⟨⟨i + 1, by omega, by go_num, bel_drewN HBEL.out nq⟩, by simp [intOf]; omega⟩
    · obtain rfl : i = n := by omega
      go_wp2
      go_ret
      exact ⟨rfl, HBEL.out⟩
end Go.Proofs.YtahnihihfheegaaDoor

namespace Go.Proofs.YtahnihihfheegaaDoor
open Go Go.RowKit
set_option linter.unusedVariables false
set_option linter.unusedSimpArgs false

theorem make_post (fb k n t m c : Nat) (a : Option Addr) (l : List Nat) (w : World) (hF : Fld w fb) (V : Vars w shaRound shaStart) (hd : Bs w (.slice a m c) l) (hoff : Off fb (.slice a m c)) (hmc : m ≤ c) (h1 : 1 ≤ k) (h2 : k ≤ n) (h3 : n ≤ t) (h4 : t ≤ 255) (h5 : m ≤ 8192) (hfb : 3 ≤ fb) :
    Calls Tryd.prog 20 #[.pointer (some ⟨fb, 0, none⟩), .int .i64 k, .int .i64 n, .int .i64 t, .slice a m c] w fun e w' => ∃ M pv ev, e = .returned (.tuple #[.agg M, pv, ev]) ∧ MkPost fb k n t m l w w' M pv ev ∧ Kept fb w w' ∧ (Tryd.prog.info? 27).map (·.size) = some M.size ∧ mz.size = M.size ∧ M.all (·.oneCell') = true := by
  refine (Make_any fb k n t m c a shaRound shaStart l w hF V hd hoff hmc h1 h2 h3 h4 h5 hfb).mono ?_
  rintro e w' ⟨rb, mb, g, gd, bf, NN, rfl, RR⟩
  refine ⟨_, _, _, rfl, ⟨rb, mb, g, gd, bf, NN, rfl, rfl, rfl, RR⟩, RR.kept, ?_, ?_, mcells_one _ _ _ _ _ _ _ _⟩
  · rw [List.size_toArray, mcells_length _ _ _ _ _ _ (dig_length _ _ _)]; kernel_rfl
  · rw [mz_sizeO, List.size_toArray, mcells_length _ _ _ _ _ _ (dig_length _ _ _)]
theorem dgAt_range {w : World} {gd t k L : Nat} {l : List Nat} (h : ∀ j, j < t → w.rangeAt gd (j * 32) (u8s (pdg shaRound shaStart l k L j))) : DgAt w (.slice (some ⟨gd, 0, none⟩) t t) ((List.range t).map fun j => pdg shaRound shaStart l k L j) := by
  refine ⟨some ⟨gd, 0, none⟩, t, by simp, fun d hd => ?_, fun _ => ⟨gd, 0, rfl, fun j hj => ?_⟩⟩
  · obtain ⟨j, _, rfl⟩ := List.mem_map.1 hd
    exact ⟨dig_length _ _ _, digL_lt ()⟩
  · have hjt : j < t := by simpa using hj
    have e : ((List.range t).map fun j => pdg shaRound shaStart l k L j).getD j [] = pdg shaRound shaStart l k L j := by
      rw [List.getD_eq_getElem?_getD]
      simp [hjt]
    rw [e, Nat.zero_add]
    exact h j hjt
theorem dgat_same {w w' : World} {gd n c : Nat} {D : List (List Nat)} (h : DgAt w (.slice (some ⟨gd, 0, none⟩) n c) D) (k : w'.heap[gd]? = w.heap[gd]?) : DgAt w' (.slice (some ⟨gd, 0, none⟩) n c) D := h.same k
theorem bs_getD {w : World} {v : Value} {l : List Nat} (h : Bs w v l) (i : Nat) : l.getD i 0 < 256 := h.lt i
theorem cp_size {w : World} {base n c : Nat} {a : Option Addr} {l : List Nat} (h : w.ownsRow base 5 1 (.slice a n c) n (u8s l)) (hn : 0 < n) : base < w.heap.size := by
  obtain ⟨g, h1, h2, h3, _⟩ := buf_of_owns h hn
  exact Nat.lt_of_le_of_lt h2 h3.lt
theorem run_zeroM (w : World) : (Instr.build 24 #[]).run Tryd.prog w = .ok (.agg (u8s (List.replicate 32 0)).toArray) w := by kernel_rfl
/-- a zero digest, as an opaque value -/
theorem wpList_zeroM {w : World} {ops : Array Oper} {rest : List Oper} {o : Oper} {a : Act} {Q : Exit → Act → World → Prop} (hg : o.guard = none) (hop : o.op = .build 24 #[])
    (h : ∀ Z : List Value, Z.length = 32 → (∀ v ∈ Z, v.oneCell' = true) → wpList Tryd.prog ops Q rest (a.put o.dst (.agg Z.toArray)) w) : wpList Tryd.prog ops Q (o :: rest) a w := by
  refine wpList_plain hg fun K' hK' => ?_
  have h1 := run_zeroM w
  unfold Oper.wp
  simp [execOp, hop, h1, Result.andThen]
  exact hK' _ _ (h _ (by simp [u8s]) (u8s_oneH _))
/-- what the law writes over: the digests of the first manifest, its pieces' rows, its bytes -/
def Grb (bf : Nat → Nat) (t gd gb : Nat) (b : Nat) : Prop := b = gd ∨ (∃ i, i < t ∧ b = bf i) ∨ b = gb
/-- the rows of the pieces while they are written over -/
def Rows8 (w : World) (bf : Nat → Nat) (t L : Nat) : Prop := ∀ q, q < t → ∃ l : List Nat, l.length = L ∧ (∀ i, l.getD i 0 < 256) ∧ Own w (bf q) l
theorem grb_no {bf : Nat → Nat} {t gd gb b : Nat} (h1 : b ≠ gd) (h2 : ∀ i, i < t → b ≠ bf i) (h3 : b ≠ gb) : ¬ Grb bf t gd gb b := by
  rintro (h | ⟨i, hi, h⟩ | h)
  · exact h1 h
  · exact h2 i hi h
  · exact h3 h
theorem grb_out {bf : Nat → Nat} {t gd gb b s3 s4 s5 s6 : Nat} (h1 : s3 ≤ gd) (h2 : gd < s4) (h3 : ∀ z, z < t → s3 ≤ bf z ∧ bf z < s4) (h4 : s5 ≤ gb) (h5 : gb < s6) (h6 : s4 ≤ s5) (h7 : s3 ≤ s4) (hb : b < s3 ∨ s4 ≤ b ∧ b < s5 ∨ s6 ≤ b) : ¬ Grb bf t gd gb b :=
  grb_no (by omega) (fun z hz e => by have := h3 z hz; omega) (by omega)
theorem rows8_set {w : World} {bf : Nat → Nat} {t L q j : Nat} {u : Value} {l : List Nat} (h : Rows8 w bf t L) (hinj : ∀ a b, a < b → b < t → bf a ≠ bf b) (hq : q < t) (hl : l.length = L) (hlt : ∀ i, l.getD i 0 < 256) (ho : Own (w.setCell ⟨bf q, j, none⟩ u) (bf q) l) : Rows8 (w.setCell ⟨bf q, j, none⟩ u) bf t L := fun p hp => by
  by_cases e : p = q
  · subst e
    exact ⟨l, hl, hlt, ho⟩
  · obtain ⟨l', h1, h2, h3⟩ := h p hp
    refine ⟨l', h1, h2, h3.setCell (p := ⟨bf q, j, none⟩) ?_ _⟩
    show bf q ≠ bf p
    rcases Nat.lt_or_gt_of_ne e with h | h
    · exact fun e2 => hinj p q h hq e2.symm
    · exact hinj q p h hp
theorem fld_keptX {P : Nat → Prop} {w w' : World} {fb : Nat} (h : Fld w fb) (k : KeptX P w w') (hn : ¬ P fb) : Fld w' fb := h.elim (fun h => .inl (k.heap h hn)) (fun h => .inr (k.heap h hn))
theorem bs_keptX {P : Nat → Prop} {w w' : World} {a : Option Addr} {n c : Nat} {l : List Nat} (h : Bs w (.slice a n c) l) (k : KeptX P w w') (hn : ∀ ad, a = some ad → ¬ P ad.block) : Bs w' (.slice a n c) l := by
  obtain ⟨a', c', h1, h2, h3⟩ := h
  simp only [Value.slice.injEq] at h1
  obtain ⟨rfl, rfl, rfl⟩ := h1
  refine ⟨a, c, rfl, h2, fun hl => ?_⟩
  obtain ⟨b, o, ha, hc⟩ := h3 hl
  refine ⟨b, o, ha, fun i hi => ?_⟩
  exact (World.cell?_of_block (a := ⟨b, o + i, none⟩) (k.block b (World.block_lt_of_cell? _ _ (hc i hi)) (hn _ ha))).trans (hc i hi)
theorem pcs_keptX {w w' : World} {g B k L : Nat} {bf : Nat → Nat} {D : Nat → List Nat} (h : Pcs w g B k L bf D) (hk : ∀ b, B ≤ b → b < w.heap.size → w'.heap[b]? = w.heap[b]?) (hg : B ≤ g) : Pcs w' g B k L bf D :=
  ⟨(hk g hg h.own.lt).trans h.own, fun j hj => (hk _ (h.low j hj) (h.row j hj).lt).trans (h.row j hj), h.low, h.inj, h.notb⟩
theorem pcs_belowM {w w' : World} {g B k L : Nat} {bf : Nat → Nat} {D : Nat → List Nat} (h : Pcs w g B k L bf D) (b : Below w.heap.size w w') : Pcs w' g B k L bf D :=
  ⟨(b.block g h.own.lt).trans h.own, fun j hj => (b.block _ (h.row j hj).lt).trans (h.row j hj), h.low, h.inj, h.notb⟩
/-- rows of bytes and lists of pieces are no field -/
theorem pcs_keptF {w w' : World} {fb g B k L : Nat} {bf : Nat → Nat} {D : Nat → List Nat} (h : Pcs w g B k L bf D) (hk : Kept fb w w') (hF : Fld w fb) : Pcs w' g B k L bf D := by
  have hg : g ≠ fb := by
    rintro rfl
    rcases hF with h2 | h2 <;> (have h3 := h.own.symm.trans h2; simp at h3)
  have hb : ∀ j, j < k → bf j ≠ fb := fun j hj e => by
    have h1 := h.row j hj
    rw [e] at h1
    rcases hF with h2 | h2 <;> (have h3 := h1.symm.trans h2; simp at h3)
  exact ⟨(hk.block g h.own.lt hg).trans h.own, fun j hj => (hk.block _ (h.row j hj).lt (hb j hj)).trans (h.row j hj), h.low, h.inj, h.notb⟩
theorem cpb_off {w : World} {g c m q j : Nat} {a : Option Addr} {u : Value} (h : CpB w g c m a) (hne : g ≠ q) : CpB (w.setCell ⟨q, j, none⟩ u) g c m a :=
  h.same (Below.heap_setCell w ⟨q, j, none⟩ u g hne)
theorem pcs_ps {w : World} {g B t k L : Nat} {bf : Nat → Nat} {ld : List Nat} (h : Pcs w g B t L bf (encP ld k L)) (hl : ∀ i, ld.getD i 0 < 256) : Ps w (.slice (some ⟨g, 0, none⟩) t t) (mkps bf L t t) ∧ ∀ i, (hi : i < (mkps bf L t t).length) → Bs w (.slice (mkps bf L t t)[i].2.1 (mkps bf L t t)[i].2.2.1 (mkps bf L t t)[i].2.2.2) (encP ld k L i) := by
  refine ⟨h.own.ps t t (by rw [mkps_length]), fun i hi => ?_⟩
  have hit : i < t := by rw [mkps_length] at hi; exact hi
  rw [mkps_get _ _ _ _ _ hi hit]
  have h5 := (h.row i hit).bs (encM_lt ld hl k L i) L
  rwa [encM_length] at h5
theorem pcs_same {w : World} {gA gB BA BB t k L : Nat} {bfA bfB : Nat → Nat} {ld : List Nat} (hA : Pcs w gA BA t L bfA (encP ld k L)) (hB : Pcs w gB BB t L bfB (encP ld k L)) (hl : ∀ i, ld.getD i 0 < 256) (ht : t ≤ 1000000) :
    Calls Tryd.prog 23 #[.slice (some ⟨gA, 0, none⟩) t t, .slice (some ⟨gB, 0, none⟩) t t] w fun e w' => e = .returned (.bool true) ∧ Below w.heap.size w w' := by
  obtain ⟨a1, a2⟩ := pcs_ps hA hl
  obtain ⟨b1, b2⟩ := pcs_ps hB hl
  exact same_yes _ _ t t t _ _ (encP ld k L) w a1 b1 ht (fun i h h' => by rw [mkps_get _ _ _ _ _ h (by rw [mkps_length] at h; exact h), mkps_get _ _ _ _ _ h' (by rw [mkps_length] at h'; exact h')]) a2 b2
theorem mem_after {W w3 w4 w5 w6 w7 w10 : World} {P : Nat → Prop} {fb mb2 gd2 g2 n c NB ca L t : Nat} {cs : Array Value} {k nn tt s : Int} {OD : List Nat} {DG : List (List Nat)} {aa : Option Addr} {EL : List Nat} {bf2 : Nat → Nat} {D : Nat → List Nat}
    (hk : KeptX P w7 w10) (hg : ∀ b, (b < w3.heap.size ∨ w4.heap.size ≤ b ∧ b < w5.heap.size ∨ w6.heap.size ≤ b) → ¬ P b) (h57 : Below w5.heap.size w5 w7) (hW5 : Below W.heap.size W w5) (hW3 : W.heap.size ≤ w3.heap.size)
    (hc : w5.heap[W.heap.size]? = some (.cells cs 31 (0, 0))) (hl3 : W.heap.size < w3.heap.size) (hF : Fld w5 fb) (hfb : fb < w3.heap.size)
    (hm : ManAt w5 mb2 k nn tt s OD (.slice (some ⟨gd2, 0, none⟩) n c)) (r1 : w4.heap.size ≤ mb2) (s1 : mb2 < w5.heap.size) (hd : DgAt w5 (.slice (some ⟨gd2, 0, none⟩) n c) DG) (r2 : w4.heap.size ≤ gd2) (s2 : gd2 < w5.heap.size)
    (ha : Bs w7 (.slice aa NB ca) EL) (haa : ∀ ad, aa = some ad → w6.heap.size ≤ ad.block) (hp : Pcs w5 g2 w4.heap.size t L bf2 D) (r3 : w4.heap.size ≤ g2) :
    Below W.heap.size W w10 ∧ w10.heap[W.heap.size]? = some (.cells cs 31 (0, 0)) ∧ Fld w10 fb ∧ ManAt w10 mb2 k nn tt s OD (.slice (some ⟨gd2, 0, none⟩) n c) ∧ DgAt w10 (.slice (some ⟨gd2, 0, none⟩) n c) DG ∧ Bs w10 (.slice aa NB ca) EL ∧ Pcs w10 g2 w4.heap.size t L bf2 D := by
  have hz := h57.size
  have hW5s := hW5.size
  refine ⟨hk.below (hW5.trans (h57.mono hW5s)) (fun b hb => hg b (.inl (Nat.lt_of_lt_of_le hb hW3))), hk.heap ((h57.block _ (lt_of_heap hc)).trans hc) (hg _ (.inl hl3)), fld_keptX (fld_belowA hF h57) hk (hg _ (.inl hfb)), ?_, ?_, ?_, ?_⟩
  · exact hk.heap ((h57.block mb2 s1).trans hm) (hg _ (.inr (.inl ⟨r1, s1⟩)))
  · exact dgat_same hd ((hk.block gd2 (Nat.lt_of_lt_of_le s2 hz) (hg _ (.inr (.inl ⟨r2, s2⟩)))).trans (h57.block gd2 s2))
  · exact bs_keptX ha hk (fun ad e => hg _ (.inr (.inr (haa ad e))))
  · exact pcs_keptX hp (fun b h1 h2 => (hk.block b (Nat.lt_of_lt_of_le h2 hz) (hg _ (.inr (.inl ⟨h1, h2⟩)))).trans (h57.block b h2)) r3
theorem encM_ltI {l : List Nat} (h : ∀ y ∈ l, y < 256) (k L i : Nat) : ∀ n ∈ encP l k L i, n < 256 := encM_lt l (fun i => by
  rw [List.getD_eq_getElem?_getD]
  by_cases hi : i < l.length
  · rw [List.getElem?_eq_getElem hi]; exact h _ (List.getElem_mem _)
  · rw [List.getElem?_eq_none (by omega)]; decide) k L i

end Go.Proofs.YtahnihihfheegaaDoor
