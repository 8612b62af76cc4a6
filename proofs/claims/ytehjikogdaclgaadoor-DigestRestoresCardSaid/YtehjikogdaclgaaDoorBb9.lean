/-
  An append to an empty new row, as a region's step. · A law's call of Make: the steps of its region, and what they leave. · A law's call of Make: what its region leaves, whatever Make answers. · All blocks but some are kept. · Owned rows of bytes; regions by a class of worlds. · A copy that may be written: bytes.Clone. · Bytes and EncodeManifest, whose result may be written. · The reference's Times, Over and Power.
-/
import Derived.Test.YtehjikogdaclgaaDoorBb3
import Derived.Deep.RegionHeld3
import Derived.Test.YtehjikogdaclgaaDoorBb8
import Derived.Test.YtehjikogdaclgaaDoorBb6
import Derived.Test.YtehjikogdaclgaaDoorBb1
import Derived.Test.YtehjikogdaclgaaDoorBb7
namespace Go.Proofs.YtehjikogdaclgaaDoor
open Go Go.RowKit
set_option linter.unusedVariables false

/-- rows of different element types lie in different blocks -/
theorem own_types {w : World} {B1 B2 s1 s2 n1 n2 : Nat} {e1 e2 : TypeId} {v1 v2 : Value} {x1 x2 : List Value} (h1 : w.ownsRow B1 e1 s1 v1 n1 x1) (h2 : w.ownsRow B2 e2 s2 v2 n2 x2) (hne : e1 ≠ e2) : v1.ownBlock = none ∨ v1.ownBlock ≠ v2.ownBlock := by
  rcases h1.2 with ⟨rfl, _⟩ | ⟨g1, c1, u1, rfl, _, k1, _⟩
  · exact .inl rfl
  · right
    rcases h2.2 with ⟨rfl, _⟩ | ⟨g2, c2, u2, rfl, _, k2, _⟩
    · simp [Value.ownBlock]
    · simp only [Value.ownBlock, ne_eq, Option.some.injEq]
      rintro rfl
      rw [k1] at k2
      simp at k2
      exact hne k2.2
theorem u8s_oneS (l : List Nat) : ∀ v ∈ u8s l, v.oneCell' = true := by
  intro v hv
  simp only [u8s, List.mem_map] at hv
  obtain ⟨n, _, rfl⟩ := hv
  rfl
/-- append to an empty new row, of any slice of bytes -/
theorem step_own_bytes {ops : Array Oper} {o : Oper} {a : Act} {w : World} {K : Act → World → Prop} {Q : Exit → Act → World → Prop} {E : Prop} (hgd : o.guard = none) (s x : Operand)
    (ho : o.op = .call { callee := .builtin .append, args := #[s, x], argTypes := #[22, 22] }) (base g0 : Nat) (hs : a.eval s = .slice (some ⟨g0, 0, none⟩) 0 0) (hown : w.ownsRow base 5 1 (.slice (some ⟨g0, 0, none⟩) 0 0) 0 [])
    (sa : Option Addr) (m c : Nat) (l : List Nat) (hx : a.eval x = .slice sa m c) (hb : Bs w (.slice sa m c) l) (hnil : sa = none → c = 0) (hm : m ≤ 461168601842) (hbase : base ≤ w.heap.size)
    (hK : ∀ v' w', w'.ownsRow base 5 1 v' m (u8s l) → w.grownBy w' (some g0) → K (a.put o.dst v') w') :
    if Region.wanted o (yielded ops a.tmps) = true then Oper.wp Tryd.prog o a w K Q else E := by
  have hw : Region.wanted o (yielded ops a.tmps) = true := by simp [Region.wanted, hgd]
  rw [if_pos hw]
  obtain ⟨i0, hi, hz0, hz1, hz2⟩ := info_parts info5
  have hlen := hb.len
  cases sa with
  | none =>
    obtain rfl := hnil rfl
    have h0 : l = [] := by
      rcases hb.addr with ⟨h0, _⟩ | ⟨_, b, o', c', hv⟩
      · exact h0
      · simp at hv
    subst h0
    obtain rfl : m = 0 := hlen
    have hrun := run_append_owned_none (P := Tryd.prog) (w := w) base 22 o.type 5 i0 1 Tryd.underlying22 hi (.slice (some ⟨g0, 0, none⟩) 0 0) 0 [] hown
    unfold Oper.wp
    simp [execOp, ho, resolve, invoke, builtin, hs, hx, hrun, Result.andThen]
    exact hK _ _ hown (World.grownBy.refl w _)
  | some ad =>
    have hnews : ∀ j u, (u8s l)[j]? = some u → w.cell? (ad.add j) = some u := fun j u hj => by
      have hjl : j < l.length := by have := (List.getElem?_eq_some_iff.1 hj).1; simpa [u8s] using this
      rcases hb.addr with ⟨h0, _⟩ | ⟨_, b, o', c', hv⟩
      · rw [h0] at hjl; exact absurd hjl (Nat.not_lt_zero _)
      · simp only [Value.slice.injEq, Option.some.injEq] at hv
        obtain ⟨rfl, _, _⟩ := hv
        have hc := hb.cell j hjl
        have e : (⟨b, o', none⟩ : Addr).add j = ⟨b, o' + j, none⟩ := by unfold Addr.add; split <;> simp_all
        rw [e, hc, ← hj]
        simp [u8s, List.getElem?_eq_getElem hjl]
    refine wp_append_own w s x _ ho base 5 i0 (.int .u8 0) 1 1 Tryd.underlying22 hi hz0 hz1 hz2 rfl (by decide) _ 0 [] hs hown ad m c (u8s l) hx (by simp [u8s]; omega) hnews (u8s_oneS l) (by unfold maxLen; omega) (by omega) hbase ?_
    intro v' w' hown' hg hn
    rw [Nat.zero_add, List.nil_append] at hown'
    exact hK v' w' hown' hg
end Go.Proofs.YtehjikogdaclgaaDoor

namespace Go.Proofs.YtehjikogdaclgaaDoor
open Go Go.RowKit
set_option linter.unusedVariables false

theorem run_build0 (w : World) : (Instr.buildSlice 22 0 #[]).run Tryd.prog w = .ok (.slice (some ⟨w.heap.size, 0, none⟩) 0 0) (w.alloc (.cells #[] 5)) := by kernel_rfl
theorem step_build0 {ops : Array Oper} {o : Oper} {a : Act} {w : World} {K : Act → World → Prop} {Q : Exit → Act → World → Prop} {E : Prop} (hgd : o.guard = none) (ho : o.op = .buildSlice 22 0 #[])
    (h : ∀ g w', g = w.heap.size → w'.heap[g]? = some (.cells #[] 5 (0, 0)) → Below w.heap.size w w' → g < w'.heap.size → K (a.put o.dst (.slice (some ⟨g, 0, none⟩) 0 0)) w') : if Region.wanted o (yielded ops a.tmps) = true then Oper.wp Tryd.prog o a w K Q else E := by
  refine step_value (P := Tryd.prog) hgd (v := .slice (some ⟨w.heap.size, 0, none⟩) 0 0) (w' := w.alloc (.cells #[] 5)) ?_ (h w.heap.size _ rfl (heap_new _ _) ((Below.refl _ _).alloc (Nat.le_refl _) _) (by simp))
  have h1 := run_build0 w
  unfold execOp
  simp only [ho]
  simp [h1]
theorem own_emptyM {w : World} {base g : Nat} (h : w.heap[g]? = some (.cells #[] 5 (0, 0))) (hb : base ≤ g) : w.ownsRow base 5 1 (.slice (some ⟨g, 0, none⟩) 0 0) 0 [] :=
  ⟨rfl, .inr ⟨g, 0, #[], rfl, hb, h, Nat.le_refl _, Nat.zero_le _, rfl, rfl⟩⟩

/-- what a call of Make and the store of its manifest leave -/
structure MdR (fb k n t m : Nat) (l : List Nat) (mb g gd : Nat) (bf : Nat → Nat) (w1 w : World) : Prop where
  man : ManAt w mb k n t m (dig shaRound shaStart l) (.slice (some ⟨gd, 0, none⟩) t t)
  pcs : Pcs w g w1.heap.size t (plen k m) bf (encP l k (plen k m))
  rng : ∀ j, j < t → w.rangeAt gd (j * 32) (u8s (pdg shaRound shaStart l k (plen k m) j))
  th : w.there gd 0 (t * 32)
  built : Built w fb
  kept : Kept fb w1 w
  ne : gd ≠ g ∧ gd ≠ mb ∧ g ≠ mb ∧ ∀ j, j < t → bf j ≠ gd ∧ bf j ≠ mb
  low : w1.heap.size ≤ mb ∧ w1.heap.size ≤ gd ∧ w1.heap.size ≤ g
  up : mb < w.heap.size ∧ gd < w.heap.size ∧ g < w.heap.size ∧ ∀ j, j < t → bf j < w.heap.size

/-- the manifest's block was made behind the call -/
theorem md_late {fb rb mb0 k n t m mb g gd : Nat} {l : List Nat} {bf : Nat → Nat} {w1 wS wE wA wZ : World} (N : MkN fb rb mb0 g gd t bf wS) (R : MkR fb mb0 g gd k t m (plen k m) shaRound shaStart l bf wS wE) (hfb : fb < w1.heap.size)
    (hS : Below w1.heap.size w1 wS) (hmb : mb = wE.heap.size) (hA : Below wE.heap.size wE wA) (hml : mb < wA.heap.size) (hZ : wZ.heap[mb]? = some (.cells (mcells k n t m (dig shaRound shaStart l) (.slice (some ⟨gd, 0, none⟩) t t)).toArray 27 (0, 0))) (hk : Kept mb wA wZ) :
    MdR fb k n t m l mb g gd bf w1 wZ := by
  obtain ⟨n1, n2, n3, n4, n5⟩ := N.ne
  obtain ⟨l1, l2, l3, l4, l5, l6⟩ := N.low
  have hs := hS.size
  have hE := R.kept.size
  have hgl := R.pcs.own.lt
  have hgdl := R.gdl
  have hfl := R.built.lt
  have hz := hk.size
  have ha := hA.size
  have hbf : ∀ j, j < t → bf j < wE.heap.size := fun j hj => (R.pcs.row j hj).lt
  have hb : ∀ q, q < wE.heap.size → wZ.heap[q]? = wE.heap[q]? := fun q hq => (hk.block q (by omega) (by omega)).trans (hA.block q hq)
  refine ⟨hZ, ⟨(hb g hgl).trans R.pcs.own, fun j hj => (hb _ (hbf j hj)).trans (R.pcs.row j hj), fun j hj => Nat.le_trans hs (R.pcs.low j hj), R.pcs.inj, R.pcs.notb⟩, fun j hj => range_same (R.rng j hj) (hb gd hgdl), there_same R.th (hb gd hgdl), (hb fb hfl).trans R.built, ?_, ⟨n1, by omega, by omega, fun j hj => ⟨N.bfn j hj, by have := hbf j hj; omega⟩⟩, ⟨by omega, by omega, by omega⟩, ⟨by omega, by omega, by omega, fun j hj => by have := hbf j hj; omega⟩⟩
  exact ((Kept.of_below hS).trans R.kept).trans (((Kept.of_below hA).fresh hk (by omega)).trans (Kept.refl _ _))

/-- .. and ahead of it -/
theorem md_early {fb rb mb0 k n t m mb g gd : Nat} {l : List Nat} {bf : Nat → Nat} {w1 wS wE wZ : World} (N : MkN fb rb mb0 g gd t bf wS) (R : MkR fb mb0 g gd k t m (plen k m) shaRound shaStart l bf wS wE) (hfb : fb < w1.heap.size)
    (hS : Below w1.heap.size w1 wS) (hlo : w1.heap.size ≤ mb) (hml : mb < wS.heap.size) (hZ : wZ.heap[mb]? = some (.cells (mcells k n t m (dig shaRound shaStart l) (.slice (some ⟨gd, 0, none⟩) t t)).toArray 27 (0, 0))) (hk : Kept mb wE wZ) :
    MdR fb k n t m l mb g gd bf w1 wZ := by
  obtain ⟨n1, n2, n3, n4, n5⟩ := N.ne
  obtain ⟨l1, l2, l3, l4, l5, l6⟩ := N.low
  have hs := hS.size
  have hE := R.kept.size
  have hgl := R.pcs.own.lt
  have hgdl := R.gdl
  have hfl := R.built.lt
  have hz := hk.size
  have hbf : ∀ j, j < t → wS.heap.size ≤ bf j ∧ bf j < wE.heap.size := fun j hj => ⟨R.pcs.low j hj, (R.pcs.row j hj).lt⟩
  have hb : ∀ q, q < wE.heap.size → q ≠ mb → wZ.heap[q]? = wE.heap[q]? := fun q hq hne => hk.block q hq hne
  refine ⟨hZ, ⟨(hb g hgl (by omega)).trans R.pcs.own, fun j hj => (hb _ (hbf j hj).2 (by have := hbf j hj; omega)).trans (R.pcs.row j hj), fun j hj => Nat.le_trans hs (R.pcs.low j hj), R.pcs.inj, R.pcs.notb⟩, fun j hj => range_same (R.rng j hj) (hb gd hgdl (by omega)), there_same R.th (hb gd hgdl (by omega)), (hb fb hfl (by omega)).trans R.built, ?_, ⟨n1, by omega, by omega, fun j hj => ⟨N.bfn j hj, by have := hbf j hj; omega⟩⟩, ⟨hlo, by omega, by omega⟩, ⟨by omega, by omega, by omega, fun j hj => by have := hbf j hj; omega⟩⟩
  exact ((Kept.of_below hS).trans R.kept).fresh hk hlo
end Go.Proofs.YtehjikogdaclgaaDoor

namespace Go.Proofs.YtehjikogdaclgaaDoor
open Go Go.RowKit
set_option linter.unusedVariables false

theorem off_lowM {a : Option Addr} {n c B fb : Nat} (h : ∀ ad, a = some ad → B ≤ ad.block) (hB : fb < B) : Off fb (.slice a n c) := by
  cases a with
  | none => trivial
  | some ad => show ad.block ≠ fb; have := h ad rfl; omega
theorem nil_ownsM {w : World} {base m n c : Nat} {a : Option Addr} {xs : List Value} (h : w.ownsRow base 5 1 (.slice a n c) m xs) : a = none → c = 0 := fun e => by
  rcases h.2 with ⟨h1, _⟩ | ⟨g, cap, cur, h1, _⟩
  · simp only [Value.slice.injEq] at h1
    exact h1.2.2
  · simp only [Value.slice.injEq] at h1
    rw [h1.1] at e
    cases e
theorem owns_belowX {w w' : World} {base m s : Nat} {e : TypeId} {v : Value} {xs : List Value} (h : w.ownsRow base e s v m xs) (k : Below w.heap.size w w') : w'.ownsRow base e s v m xs := by
  obtain ⟨h1, h2⟩ := h
  exact ⟨h1, h2.imp id fun ⟨g, cap, cur, h3, h4, h5, r⟩ => ⟨g, cap, cur, h3, h4, (k.block g (lt_of_heap h5)).trans h5, r⟩⟩
theorem off_typeX {w : World} {base m n c : Nat} {a : Option Addr} {xs : List Value} (h : w.ownsRow base 5 1 (.slice a n c) m xs) {p : Nat} {cs : Array Value} {T : TypeId} {fr : Nat × Nat} (hp : w.heap[p]? = some (.cells cs T fr)) (hT : T ≠ 5) : Off p (.slice a n c) := by
  rcases h.2 with ⟨h1, _⟩ | ⟨g, cap, cur, h1, _, h3, _⟩
  · simp only [Value.slice.injEq] at h1
    rw [h1.1]; trivial
  · simp only [Value.slice.injEq] at h1
    rw [h1.1]
    show g ≠ p
    rintro rfl
    rw [h3] at hp
    simp at hp
    exact hT hp.2.1.symm
/-- the manifest mb, the pieces and the error that a call of Make, begun at wS and ended at wE, has left -/
structure MdX (fb : Nat) (Post : World → World → Array Value → Value → Value → Prop) (mb : Nat) (M : Array Value) (pv ev : Value) (w1 w : World) : Prop where
  ex : ∃ wS wE, Below w1.heap.size w1 wS ∧ Post wS wE M pv ev ∧ Kept fb wS wE ∧ (mb < wS.heap.size ∨ wE.heap.size ≤ mb) ∧ (∀ q, q < wE.heap.size → q ≠ mb → w.heap[q]? = wE.heap[q]?) ∧ wE.heap.size ≤ w.heap.size
  at_ : w.heap[mb]? = some (.cells M 27 (0, 0))
  low : w1.heap.size ≤ mb
  up : mb < w.heap.size
  kept : Kept fb w1 w
theorem mdx_late {fb mb : Nat} {Post : World → World → Array Value → Value → Value → Prop} {M : Array Value} {pv ev : Value} {w1 wS wE wA wZ : World} (hS : Below w1.heap.size w1 wS) (hP : Post wS wE M pv ev) (hE : Kept fb wS wE)
    (hmb : mb = wE.heap.size) (hA : Below wE.heap.size wE wA) (hml : mb < wA.heap.size) (hZ : wZ.heap[mb]? = some (.cells M 27 (0, 0))) (hk : Kept mb wA wZ) : MdX fb Post mb M pv ev w1 wZ := by
  have h1 := hS.size
  have h2 := hE.size
  have h3 := hA.size
  have h4 := hk.size
  refine ⟨⟨wS, wE, hS, hP, hE, .inr (by omega), fun q hq hne => (hk.block q (by omega) hne).trans (hA.block q hq), by omega⟩, hZ, by omega, by omega, ?_⟩
  exact (((Kept.of_below hS).trans hE).trans (Kept.of_below hA)).fresh hk (by omega)
theorem mdx_early {fb mb : Nat} {Post : World → World → Array Value → Value → Value → Prop} {M : Array Value} {pv ev : Value} {w1 wS wE wZ : World} (hS : Below w1.heap.size w1 wS) (hP : Post wS wE M pv ev) (hE : Kept fb wS wE)
    (hlo : w1.heap.size ≤ mb) (hml : mb < wS.heap.size) (hZ : wZ.heap[mb]? = some (.cells M 27 (0, 0))) (hk : Kept mb wE wZ) : MdX fb Post mb M pv ev w1 wZ := by
  have h1 := hS.size
  have h2 := hE.size
  have h4 := hk.size
  refine ⟨⟨wS, wE, hS, hP, hE, .inl hml, fun q hq hne => hk.block q hq hne, by omega⟩, hZ, hlo, by omega, ?_⟩
  exact ((Kept.of_below hS).trans hE).fresh hk hlo
/-- what Make answers where its arguments are right -/
def MkPost (fb k n t m : Nat) (l : List Nat) (wS wE : World) (M : Array Value) (pv ev : Value) : Prop :=
  ∃ rb mb0 g gd bf, MkN fb rb mb0 g gd t bf wS ∧ M = (mcells k n t m (dig shaRound shaStart l) (.slice (some ⟨gd, 0, none⟩) t t)).toArray ∧ pv = .slice (some ⟨g, 0, none⟩) t t ∧ ev = .int .i64 0 ∧ MkR fb mb0 g gd k t m (plen k m) shaRound shaStart l bf wS wE
theorem MdX.good {fb k n t m mb : Nat} {l : List Nat} {M : Array Value} {pv ev : Value} {w1 w : World} (h : MdX fb (MkPost fb k n t m l) mb M pv ev w1 w) (hfb : fb < w1.heap.size) :
    ∃ g gd bf, pv = .slice (some ⟨g, 0, none⟩) t t ∧ ev = .int .i64 0 ∧ MdR fb k n t m l mb g gd bf w1 w := by
  obtain ⟨wS, wE, hS, ⟨rb, mb0, g, gd, bf, N, rfl, rfl, rfl, R⟩, hE, hor, hb, hsz⟩ := h.ex
  obtain ⟨n1, n2, n3, n4, n5⟩ := N.ne
  obtain ⟨l1, l2, l3, l4, l5, l6⟩ := N.low
  have hs := hS.size
  have hEs := hE.size
  have hgl := R.pcs.own.lt
  have hgdl := R.gdl
  have hfl := R.built.lt
  have hlo := h.low
  have hbf : ∀ j, j < t → wS.heap.size ≤ bf j ∧ bf j < wE.heap.size := fun j hj => ⟨R.pcs.low j hj, (R.pcs.row j hj).lt⟩
  refine ⟨g, gd, bf, rfl, rfl, h.at_, ⟨(hb g hgl (by omega)).trans R.pcs.own, fun j hj => (hb _ (hbf j hj).2 (by have := hbf j hj; omega)).trans (R.pcs.row j hj), fun j hj => Nat.le_trans hs (R.pcs.low j hj), R.pcs.inj, R.pcs.notb⟩, fun j hj => range_same (R.rng j hj) (hb gd hgdl (by omega)), there_same R.th (hb gd hgdl (by omega)), (hb fb hfl (by omega)).trans R.built, h.kept, ⟨n1, by omega, by omega, fun j hj => ⟨N.bfn j hj, by have := hbf j hj; omega⟩⟩, ⟨hlo, by omega, by omega⟩, ⟨h.up, by omega, by omega, fun j hj => by have := hbf j hj; omega⟩⟩
/-- what Make leaves stays through what keeps all blocks but the field's -/
theorem MdR.step {fb k n t m mb g gd : Nat} {l : List Nat} {bf : Nat → Nat} {w1 w w' : World} (h : MdR fb k n t m l mb g gd bf w1 w) (k' : Kept fb w w') (hfb : fb < w1.heap.size) (hbu : Built w' fb) : MdR fb k n t m l mb g gd bf w1 w' := by
  obtain ⟨l1, l2, l3⟩ := h.low
  obtain ⟨u1, u2, u3, u4⟩ := h.up
  have hz := k'.size
  have hb : ∀ q, q < w.heap.size → q ≠ fb → w'.heap[q]? = w.heap[q]? := fun q hq hne => k'.block q hq hne
  have hbl : ∀ j, j < t → w1.heap.size ≤ bf j := fun j hj => h.pcs.low j hj
  exact ⟨(hb mb u1 (by omega)).trans h.man, ⟨(hb g u3 (by omega)).trans h.pcs.own, fun j hj => (hb _ (u4 j hj) (by have := hbl j hj; omega)).trans (h.pcs.row j hj), h.pcs.low, h.pcs.inj, h.pcs.notb⟩, fun j hj => range_same (h.rng j hj) (hb gd u2 (by omega)), there_same h.th (hb gd u2 (by omega)), hbu, h.kept.trans k', h.ne, ⟨l1, l2, l3⟩, ⟨by omega, by omega, by omega, fun j hj => by have := u4 j hj; omega⟩⟩
end Go.Proofs.YtehjikogdaclgaaDoor

namespace Go.Proofs.YtehjikogdaclgaaDoor
open Go Go.RowKit
set_option linter.unusedVariables false

/-- in w' all blocks of w but those in P are as they were -/
structure KeptX (P : Nat → Prop) (w w' : World) : Prop where
  os : w'.os = w.os
  tape : w'.tape = w.tape
  output : w'.output = w.output
  size : w.heap.size ≤ w'.heap.size
  block : ∀ k, k < w.heap.size → ¬ P k → w'.heap[k]? = w.heap[k]?
theorem KeptX.refl (P : Nat → Prop) (w : World) : KeptX P w w := ⟨rfl, rfl, rfl, Nat.le_refl _, fun _ _ _ => rfl⟩
theorem KeptX.setCell {P : Nat → Prop} {w w' : World} (h : KeptX P w w') {p : Addr} (hp : P p.block) (u : Value) : KeptX P w (w'.setCell p u) :=
  ⟨h.os, h.tape, h.output, by simpa using h.size, fun k hk hn => (Below.heap_setCell _ _ _ _ (fun e => hn (by rw [e]; exact hp))).trans (h.block k hk hn)⟩
theorem KeptX.heap {P : Nat → Prop} {w w' : World} (h : KeptX P w w') {b : Nat} {o : Obj} (hb : w.heap[b]? = some o) (hn : ¬ P b) : w'.heap[b]? = some o := (h.block b (lt_of_heap hb) hn).trans hb
theorem KeptX.below {P : Nat → Prop} {W w w' : World} (h : KeptX P w w') (hb : Below W.heap.size W w) (hn : ∀ b, b < W.heap.size → ¬ P b) : Below W.heap.size W w' :=
  ⟨h.os.trans hb.os, h.tape.trans hb.tape, h.output.trans hb.output, Nat.le_trans hb.size h.size, fun k hk => (h.block k (Nat.lt_of_lt_of_le hk hb.size) (hn k hk)).trans (hb.block k hk)⟩
theorem KeptX.trans {P : Nat → Prop} {x y z : World} (h : KeptX P x y) (k : KeptX P y z) : KeptX P x z :=
  ⟨k.os.trans h.os, k.tape.trans h.tape, k.output.trans h.output, Nat.le_trans h.size k.size, fun i hi hb => (k.block i (Nat.lt_of_lt_of_le hi h.size) hb).trans (h.block i hi hb)⟩
theorem KeptX.of_kept {P : Nat → Prop} {b : Nat} {w w' : World} (h : Kept b w w') (hb : P b) : KeptX P w w' := ⟨h.os, h.tape, h.output, h.size, fun k hk hn => h.block k hk (fun e => hn (e ▸ hb))⟩
theorem KeptX.mono {P Q : Nat → Prop} {w w' : World} (h : KeptX P w w') (hpq : ∀ b, P b → Q b) : KeptX Q w w' := ⟨h.os, h.tape, h.output, h.size, fun k hk hn => h.block k hk (fun e => hn (hpq k e))⟩
end Go.Proofs.YtehjikogdaclgaaDoor

namespace Go.Proofs.YtehjikogdaclgaaDoor
open Go Go.RowKit
set_option linter.unusedVariables false

theorem owns_nilD (w : World) (base : Nat) : w.ownsRow base 5 1 (.slice none 0 0) 0 (u8s []) := ⟨rfl, .inl ⟨rfl, rfl⟩⟩
theorem owns_baseD {w : World} {b0 b1 m : Nat} {v : Value} {xs : List Value} (h : w.ownsRow b1 5 1 v m xs) (hb : b0 ≤ b1) : w.ownsRow b0 5 1 v m xs := by
  refine ⟨h.1, ?_⟩
  rcases h.2 with h2 | ⟨q, cap, cur, h1, h2, h3, h4⟩
  · exact .inl h2
  · exact .inr ⟨q, cap, cur, h1, Nat.le_trans hb h2, h3, h4⟩
theorem owns_belowR {w w' : World} {base m : Nat} {v : Value} {xs : List Value} (h : w.ownsRow base 5 1 v m xs) (k : Below w.heap.size w w') : w'.ownsRow base 5 1 v m xs := by
  refine ⟨h.1, ?_⟩
  rcases h.2 with h2 | ⟨q, cap, cur, h1, h2, h3, h4⟩
  · exact .inl h2
  · exact .inr ⟨q, cap, cur, h1, h2, (k.block q (lt_of_heap h3)).trans h3, h4⟩
theorem owns_keptR {w w' : World} {base g m : Nat} {v : Value} {xs : List Value} (h : w.ownsRow base 5 1 v m xs) (k : Kept g w w') (hg : g < base) : w'.ownsRow base 5 1 v m xs := by
  refine ⟨h.1, ?_⟩
  rcases h.2 with h2 | ⟨q, cap, cur, h1, h2, h3, h4⟩
  · exact .inl h2
  · exact .inr ⟨q, cap, cur, h1, h2, (k.block q (lt_of_heap h3) (by omega)).trans h3, h4⟩

/-- the worlds of the class G -/
structure Cls (G : World → Prop) where
  w : World
  h : G w
theorem wp_region_class_lit {P : Program} {id : Nat} {Q : Exit → Act → World → Prop} {a : Act} {w : World} {l : List Oper} {G : World → Prop} (hm : P.follows .mixedOrders = true) (hB : Region.lexB .any l.toArray = true) (hC : G { w with drawn := w.drawn + 1 })
    (h : wpQuiet P l.toArray (fun w' => ∃ p : Cls G, w' = p.w) (fun a' => ∀ w', (∃ p : Cls G, w' = p.w) → Q .normal a' w') l a) : (Code.region id l.toArray true).wp P Q a w :=
  wp_region_quiet (C := fun w' => ∃ p : Cls G, w' = p.w) hm hB ⟨⟨_, hC⟩, rfl⟩ (by simpa using h)
/-- a callee that makes memory only, met in a world behind w1 -/
theorem Calls.cls {P : Program} {f : FuncId} {args : Array Value} {w1 : World} {p : Cls fun w' => Below w1.heap.size w1 w'} {v : Value}
    (h : Calls P f args p.w fun e w' => e = .returned v ∧ Below p.w.heap.size p.w w') : Calls P f args p.w fun e w'' => e = .returned v ∧ ∃ q : Cls (fun w' => Below w1.heap.size w1 w'), w'' = q.w :=
  h.mono fun _ w' ⟨he, hb⟩ => ⟨he, ⟨w', p.h.trans (hb.mono p.h.size)⟩, rfl⟩
/-- .. and one that leaves the world alone -/
theorem Calls.cls_same {P : Program} {f : FuncId} {args : Array Value} {G : World → Prop} {p : Cls G} {v : Value}
    (h : Calls P f args p.w fun e w' => e = .returned v ∧ w' = p.w) : Calls P f args p.w fun e w'' => e = .returned v ∧ ∃ q : Cls G, w'' = q.w :=
  h.mono fun _ _ ⟨he, hm⟩ => ⟨he, p, hm⟩
/-- n operations of the class in any order, then the rest one by one -/
theorem region_class_tail {P : Program} {id : Nat} {Q : Exit → Act → World → Prop} {a : Act} {w : World} {l : List Oper} {G : World → Prop} (n : Nat) (hm : P.follows .mixedOrders = true) (hB : Region.lexTailB .any l.toArray n = true) (hC : G { w with drawn := w.drawn + 1 })
    (h : wpQuiet P l.toArray (fun w' => ∃ p : Cls G, w' = p.w) (fun b => ∀ p : Cls G, wpList P l.toArray Q (l.drop n) b p.w) (l.take n) a) : (Code.region id l.toArray true).wp P Q a w := by
  simp only [Region.lexTailB, Bool.and_eq_true, decide_eq_true_eq] at hB
  obtain ⟨⟨⟨⟨hsel, hn⟩, hs⟩, hc⟩, hlex⟩ := hB
  have hn' : n < l.length := by simpa using hn
  have htl : (l.take n).length = n := by rw [List.length_take]; omega
  have hdl : (l.drop n).length = l.toArray.size - n := by simp
  have inv : HeadInv .any l.toArray n (Array.replicate l.toArray.size false) :=
    ⟨by simp, fun j _ _ hl => (by rw [getD_replicate_false] at hl; cases hl), fun t _ ht => getD_in (by simpa using ht) (getD_replicate_false _ _)⟩
  have hlex' : Region.lexHead .any l.toArray (l.toArray.size - n) (l.take n).length 0 (Array.replicate l.toArray.size false) = true := by rw [htl]; exact hlex
  have H := Quiets.lex hsel hs hc hn (l.take n) 0 _ a (fun j hj => by rw [htl] at hj; simp [hj]) (by omega) inv hlex' h
  refine wp_region_any hm ?_
  have hrun := Quiets.runs (Q := Q) (g := l.toArray.size - n) (fun done b w' hw' hL => by
    obtain ⟨p, rfl⟩ := hw'
    have := wpAny_of_seq (md := .any) (Q' := Q) (l.drop n) n done b p.w (fun j => by simp [List.getElem?_drop]) (by rw [hdl]; exact hL.1) (hL.2 p)
    rwa [hdl] at this) _ _ a _ ⟨⟨_, hC⟩, rfl⟩ H
  rw [htl, show n + (l.toArray.size - n) = l.toArray.size by omega] at hrun
  exact hrun
end Go.Proofs.YtehjikogdaclgaaDoor

namespace Go.Proofs.YtehjikogdaclgaaDoor
open Go Go.RowKit
set_option linter.unusedVariables false

/-- a copy of bytes in memory of its own, which may be written -/
def Copied2 (w : World) (n : Nat) (l : List Nat) (e : Value) (w' : World) : Prop := ∃ a c, e = .slice a n c ∧ n ≤ c ∧ Bs w' (.slice a n c) l ∧ (a = none → c = 0) ∧ (∀ ad, a = some ad → w.heap.size ≤ ad.block ∧ ad.block < w'.heap.size) ∧ Below w.heap.size w w' ∧ w'.ownsRow w.heap.size 5 1 (.slice a n c) n (u8s l)
set_option maxRecDepth 100000 in
set_option maxHeartbeats 2000000 in
theorem Clone2_any (a : Option Addr) (n c : Nat) (l : List Nat) (w : World) (hb : Bs w (.slice a n c) l) (hnil : a = none → c = 0) (hn : n ≤ 100000000000) :
    Calls Tryd.prog 67 #[.slice a n c] w fun e w' => ∃ v, e = .returned v ∧ Copied2 w n l v w' := by
  cases a with
  | none =>
    obtain rfl := hnil rfl
    have h0 : l = [] := by
      rcases hb.addr with ⟨h0, _⟩ | ⟨_, b, o, c', hv⟩
      · exact h0
      · simp at hv
    subst h0
    have hn0 : n = 0 := hb.len
    subst hn0
    have HB := hid hb
    have hq : (binOp .eql 22 (.slice none 0 0) (.slice none 0 0)).run Tryd.prog w = .ok (.bool true) w := run_eql_slice_nil w _ _ none 0 0 Tryd.underlying22
    clear hb
    go_enter Tryd.func67, Tryd.ntmps67
    go_wp2
    go_ret
    exact ⟨_, rfl, none, 0, rfl, Nat.le_refl _, HB.out, fun _ => rfl, (fun ad h => by cases h), Below.refl _ _, owns_nilD _ _⟩
  | some ad =>
    have HB := hid (hb.alloc (.cells #[] 5))
    have HNW := hid (heap_new w (.cells #[] 5))
    have hq : (binOp .eql 22 (.slice (some ad) n c) (.slice none 0 0)).run Tryd.prog w = .ok (.bool false) w := run_eql_slice_nil w _ _ (some ad) n c Tryd.underlying22
    clear hb hnil
    go_enter Tryd.func67, Tryd.ntmps67
    go_wp2_with (refine wpList_cloneB (by rfl) (.tmp 5) (.tmp 6) (by rfl) w.heap.size (by rfl) HNW.out (some ad) n c l (by rfl) HB.out (fun h => by cases h) (by omega) ?_
                 intro a5 c5 w5 hb5 hc5 hw5 hn5 hk5 hown5)
    go_ret
    refine ⟨_, rfl, a5, c5, rfl, hc5, hb5, hn5, fun q hq => hw5 q hq, ?_, hown5⟩
    exact (((Below.refl w.heap.size w).alloc (Nat.le_refl _) (.cells #[] 5))).trans (hk5.below (by simp) (Nat.le_refl _))
/-- a copy that may be written, or no bytes -/
def CpB (w : World) (g c m : Nat) (a : Option Addr) : Prop := 0 < m → a = some ⟨g, 0, none⟩ ∧ ∃ l : List Nat, l.length = m ∧ (∀ i, l.getD i 0 < 256) ∧ Buf w g c l
theorem set_ltB (l : List Nat) (h : ∀ i, l.getD i 0 < 256) (j y : Nat) (hy : y < 256) : ∀ i, (l.set j y).getD i 0 < 256 := fun i => by
  rw [List.getD_eq_getElem?_getD, List.getElem?_set]
  split
  · split
    · exact hy
    · decide
  · rw [← List.getD_eq_getElem?_getD]; exact h i
theorem cpB_of {w : World} {g0 c m : Nat} {a : Option Addr} {l : List Nat} (h : w.ownsRow g0 5 1 (.slice a m c) m (u8s l)) (hg : g0 < w.heap.size) (hl : ∀ i, l.getD i 0 < 256) : ∃ g, g0 ≤ g ∧ g < w.heap.size ∧ CpB w g c m a := by
  by_cases h0 : 0 < m
  · obtain ⟨g, h1, h2, h3, h4⟩ := buf_of_owns h h0
    exact ⟨g, h2, h3.lt, fun _ => ⟨h1, l, h4.symm, hl, h3⟩⟩
  · exact ⟨g0, Nat.le_refl _, hg, fun h => absurd h h0⟩
theorem CpB.same {w w' : World} {g c m : Nat} {a : Option Addr} (h : CpB w g c m a) (k : w'.heap[g]? = w.heap[g]?) : CpB w' g c m a := fun h0 => by
  obtain ⟨h1, l, h2, h3, h4⟩ := h h0
  exact ⟨h1, l, h2, h3, h4.of_same k⟩
end Go.Proofs.YtehjikogdaclgaaDoor

namespace Go.Proofs.YtehjikogdaclgaaDoor
open Go Go.RowKit
set_option linter.unusedVariables false

/-- what Bytes answers -/
def BytesRes2 (f : Bool) (n : Nat) (l : List Nat) (w : World) (e : Ending) (w' : World) : Prop :=
  (f = true → e = .returned (.tuple #[.slice none 0 0, .int .i64 3]) ∧ w = w') ∧ (f = false → ∃ u, e = .returned (.tuple #[u, .int .i64 0]) ∧ Copied2 w n l u w')

set_option maxRecDepth 100000 in
set_option maxHeartbeats 2000000 in
theorem Bytes2_any (wb lim : Nat) (v : Value) (l : List Nat) (f : Bool) (w : World) (W : WrAt w wb lim v l f) :
    Calls Tryd.prog 48 #[.pointer (some ⟨wb, 0, none⟩)] w fun e w' => BytesRes2 f l.length l w e w' := by
  have c2 : w.cell? ⟨wb, 2, none⟩ = some (.bool f) := by rw [cell_of_heap W.at_]; rfl
  have c1 : w.cell? ⟨wb, 1, none⟩ = some v := by rw [cell_of_heap W.at_]; rfl
  obtain ⟨a, c, rfl, hc, hb⟩ := W.sl
  have hnil : a = none → c = 0 := fun e => by
    rcases W.own.2 with ⟨h, _⟩ | ⟨g, cap, cur, h, _⟩
    · simp only [Value.slice.injEq] at h; exact h.2.2
    · simp only [Value.slice.injEq] at h; rw [e] at h; cases h.1
  have HC := hid (Clone2_any a l.length c l w hb hnil (Nat.le_trans W.fit W.cap))
  clear hb hnil hc W
  cases f with
  | true =>
    go_enter Tryd.func48, Tryd.ntmps48
    go_wp2
    go_ret2
    exact ⟨fun _ => ⟨rfl, rfl⟩, fun h => by cases h⟩
  | false =>
    generalize hm : l.length = m at *
    have HM := hid (fun (_ : Unit) => hm)
    clear hm
    go_enter Tryd.func48, Tryd.ntmps48
    go_wp2_with fail
    refine HC.out.mono ?_
    rintro e w2 ⟨u, rfl, h⟩
    go_wp2
    go_ret2
    exact ⟨fun h => (by cases h), fun _ => ⟨u, rfl, h⟩⟩

set_option maxRecDepth 100000 in
set_option maxHeartbeats 4000000 in
theorem EncodeM2_any (k n t s : Nat) (od : List Nat) (D : List (List Nat)) (v : Value) (h : od.length = 32) (hol : ∀ x ∈ od, x < 256) (w : World) (hD : DgAt w v D) (hok : manB k n t s D.length = true) :
    Calls Tryd.prog 22 #[.agg (mcells k n t s od v).toArray] w fun e w' => ∃ u, e = .returned (.tuple #[u, .int .i64 0]) ∧ ∃ wx, Copied2 wx (7 + 32 * (1 + t)) (encTo k n t s od D t) u w' ∧ Below w.heap.size w wx := by
  obtain ⟨a, c, rfl, hDl, hDc⟩ := hD
  have hM : ManAt (w.alloc (.cells (mcells k n t s od (.slice a D.length c)).toArray 27)) w.heap.size k n t s od (.slice a D.length c) := heap_new _ _
  have HM := hid hM
  have HB := hid ((Below.refl w.heap.size w).alloc (Nat.le_refl _) (.cells (mcells k n t s od (.slice a D.length c)).toArray 27))
  have HIF := hid (show (Tryd.prog.info? 27).map (·.size) = some (mcells k n t s od (.slice a D.length c)).length from by rw [mcells_length _ _ _ _ _ _ h]; kernel_rfl)
  have HC := hid (fun w => CheckManifest_any k n t s od a D.length c h w)
  have hme : manE k n t s D.length = 0 := by unfold manE; rw [if_pos hok]
  rw [hme] at HC
  have hnum : 1 ≤ k ∧ k ≤ n ∧ n ≤ t ∧ t ≤ 255 ∧ s ≤ 8192 ∧ D.length = t := by
    unfold manB vnB vcB at hok
    simp only [Bool.and_eq_true, decide_eq_true_eq] at hok
    omega
  obtain ⟨w1, hw1⟩ : ∃ w1, w1 = w.alloc (.cells (mcells k n t s od (.slice a D.length c)).toArray 27) := ⟨_, rfl⟩
  rw [← hw1] at HB HM
  have hs1 : w.heap.size < w1.heap.size := by rw [hw1]; simp
  have HRA := hid (show w1.rangeAt w.heap.size 0 (mcells k n t s od (.slice a D.length c)) from fun j v hj => by
    rw [Nat.zero_add, cell_of_heap HM.out, List.getElem?_toArray]
    exact hj)
  have HH := hid h
  have HOL := hid hol
  have HDL := hid hDl
  have HDC := hid hDc
  have HN := hid hnum
  clear hM h hol hDl hDc hok hme hnum
  go_enter Tryd.func22, Tryd.ntmps22
  go_upto_region 1 with fail
  change Code.wp _ _ _ _ (w.alloc (.cells (mcells k n t s od (.slice a D.length c)).toArray 27))
  rw [← hw1]
  clear hw1
  go_wp2_with (refine wpList_load_mid (by rfl) 27 (.tmp 1) (by rfl) w.heap.size 0 (by rfl) (mcells k n t s od (.slice a D.length c)) _ HRA.out Tryd.underlying27 rfl HIF.out ?_)
  refine (HC.out w1).mono ?_
  rintro e w2 ⟨rfl, hb2⟩
  have HM2 := hid (show ManAt w2 w.heap.size k n t s od (.slice a D.length c) from (hb2.block _ hs1).trans HM.out)
  have HB2 := hid (HB.out.trans (hb2.mono (by omega)))
  obtain ⟨c0, c1, c2, c3, c36⟩ := HM2.out.c HH.out
  have hs2 : w.heap.size < w2.heap.size := Nat.lt_of_lt_of_le hs1 hb2.size
  clear hb2 HM HB HIF HC HRA
  go_wp2_with fail
  refine (manifestSize_any t (by have := HN.out; omega) w2).mono ?_
  rintro e w3 ⟨rfl, rfl⟩
  go_wp2_with fail
  refine (NewWriter_any (7 + 32 * (1 + t)) (by have := HN.out; omega) w2).mono ?_
  rintro e w3 ⟨rfl, hW3, hb3⟩
  have HCE := hid (show ∀ wx, Below w2.heap.size w2 wx → wx.cell? ⟨w.heap.size, 0, none⟩ = some (.int .i64 (k : Int)) ∧ wx.cell? ⟨w.heap.size, 1, none⟩ = some (.int .i64 (n : Int)) ∧ wx.cell? ⟨w.heap.size, 2, none⟩ = some (.int .i64 (t : Int)) ∧ wx.cell? ⟨w.heap.size, 3, none⟩ = some (.int .i64 (s : Int)) ∧ wx.cell? ⟨w.heap.size, 36, none⟩ = some (.slice a D.length c) from fun wx hb => ManAt.c ((hb.block _ hs2).trans HM2.out) HH.out)
  obtain ⟨hk1, hkn, hnt, ht, hs8, hDt⟩ := HN.out
  clear c0 c1 c2 c3 c36
  have I1 := hid (show EncI w2 w3 (7 + 32 * (1 + t)) [] from ⟨_, hW3, hb3⟩)
  clear hW3 hb3
  obtain ⟨lim, hlim⟩ : ∃ lim, lim = 7 + 32 * (1 + t) := ⟨_, rfl⟩
  rw [← hlim] at I1
  have hl40 : 39 + 32 * t ≤ lim := by omega
  have HLIM := hid hlim
  clear hlim
  have q1 : IntKind.u8.wrap (k : Int) = (k : Int) := by rw [IntKind.wrap_u8]; omega
  have q2 : IntKind.u8.wrap (n : Int) = (n : Int) := by rw [IntKind.wrap_u8]; omega
  have q3 : IntKind.u8.wrap (t : Int) = (t : Int) := by rw [IntKind.wrap_u8]; omega
  have q4 : IntKind.u16.wrap (s : Int) = (s : Int) := by rw [IntKind.wrap_u16]; omega
  obtain ⟨v1, V1, B1⟩ := I1.out
  go_wp2_with fail
  refine (U8_any w2.heap.size lim 77 v1 [] false w3 V1 (by decide)).mono ?_
  rintro e w4 ⟨rfl, hA⟩
  have hI := EncI.step V1 B1 hA (by simp [beL_length]; omega)
  have I2 := hid hI
  clear hA hI V1 B1
  obtain ⟨v2, V2, B2⟩ := I2.out
  go_wp2_with fail
  refine (U8_any w2.heap.size lim 1 v2 _ false w4 V2 (by decide)).mono ?_
  rintro e w5 ⟨rfl, hA⟩
  have hI := EncI.step V2 B2 hA (by simp [beL_length]; omega)
  have I3 := hid hI
  clear hA hI V2 B2
  obtain ⟨v3, V3, B3⟩ := I3.out
  have d0 := (HCE.out w5 B3).1
  go_wp2_with fail
  refine (U8_any w2.heap.size lim k v3 _ false w5 V3 (by show k < 256; omega)).mono ?_
  rintro e w6 ⟨rfl, hA⟩
  have hI := EncI.step V3 B3 hA (by simp [beL_length]; omega)
  have I4 := hid hI
  clear hA hI V3 B3
  obtain ⟨v4, V4, B4⟩ := I4.out
  have d1 := (HCE.out w6 B4).2.1
  go_wp2_with fail
  refine (U8_any w2.heap.size lim n v4 _ false w6 V4 (by show n < 256; omega)).mono ?_
  rintro e w7 ⟨rfl, hA⟩
  have hI := EncI.step V4 B4 hA (by simp [beL_length]; omega)
  have I5 := hid hI
  clear hA hI V4 B4
  obtain ⟨v5, V5, B5⟩ := I5.out
  have d2 := (HCE.out w7 B5).2.2.1
  go_wp2_with fail
  refine (U8_any w2.heap.size lim t v5 _ false w7 V5 (by show t < 256; omega)).mono ?_
  rintro e w8 ⟨rfl, hA⟩
  have hI := EncI.step V5 B5 hA (by simp [beL_length]; omega)
  have I6 := hid hI
  clear hA hI V5 B5
  obtain ⟨v6, V6, B6⟩ := I6.out
  have d3 := (HCE.out w8 B6).2.2.2.1
  go_wp2_with fail
  refine (U16_any w2.heap.size lim s v6 _ false w8 V6 (by show s < 65536; omega)).mono ?_
  rintro e w9 ⟨rfl, hA⟩
  have hI := EncI.step V6 B6 hA (by simp [beL_length]; omega)
  have I7 := hid hI
  clear hA hI V6 B6
  clear d0 d1 d2 d3
  obtain ⟨v7, V7, B7⟩ := I7.out
  go_wp2_with fail
  have M9 : ManAt w9 w.heap.size k n t s od (.slice a D.length c) := (B7.block _ hs2).trans HM2.out
  have hne : w.heap.size ≠ w2.heap.size := by omega
  refine (Raw_any w2.heap.size lim 32 32 (some ⟨w.heap.size, 4, none⟩) v7 _ od false w9 V7 (M9.od HH.out HOL.out) (fun h => by cases h) (by omega) (fun ad h _ => by
    cases h
    exact ⟨hne, fun e => by
      have h9 : w2.heap.size + 1 ≤ w.heap.size := (V7.own.lt _ e).1
      omega⟩)).mono ?_
  rintro e w10 ⟨rfl, hA⟩
  have hI := EncI.step V7 B7 hA (by
    have ho := HH.out
    simp only [List.length_append, List.length_nil, beL_length]
    omega)
  obtain ⟨L, hL⟩ : ∃ L, L = [] ++ beL 77 1 ++ beL 1 1 ++ beL k 1 ++ beL n 1 ++ beL t 1 ++ beL s 2 ++ od := ⟨_, rfl⟩
  rw [← hL] at hI
  have hLl : L.length = 39 := by rw [hL]; simp [beL_length, HH.out]
  have HL := hid hL
  have I8 := hid hI
  clear hA hI V7 B7 I7 M9 hL
  obtain ⟨v8, V8, B8⟩ := I8.out
  have d36 := (HCE.out w10 B8).2.2.2.2
  rw [hDt] at d36
  clear V8 B8
  have hwb : w2.heap.size ≤ w10.heap.size := by obtain ⟨_, _, B⟩ := I8.out; exact B.size
  go_wp2
  go_loopw [48] (fun iv wr => ∃ i : Nat, i ≤ t ∧ iv = .int .i64 i ∧ Hid (EncI w2 wr lim (L ++ (D.take i).flatten)) ∧ Hid ((D.take i).flatten.length = 32 * i)) (fun iv _ => t - (intOf iv).toNat)
  case atStart => exact ⟨0, by omega, rfl, hid (by simpa using I8.out), hid (by simp)⟩
  case round =>
    clear I8
    obtain ⟨i, hi, rfl, I9, HFL⟩ := hrel
    by_cases hit : i < t
    · have hI : (i : Int) < (t : Int) := by omega
      have hDne : D ≠ [] := by intro h0; rw [h0] at hDt; simp at hDt; omega
      obtain ⟨b, o, rfl, hrg⟩ := HDC.out hDne
      have hr := hrg i (by omega)
      obtain ⟨d, hd⟩ : ∃ d, d = D.getD i [] := ⟨_, rfl⟩
      have hdm : d ∈ D := by rw [hd, List.getD_eq_getElem?_getD, List.getElem?_eq_getElem (by omega)]; exact List.getElem_mem _
      obtain ⟨hd32, hdl⟩ := HDL.out d hdm
      obtain ⟨v9, V9, B9⟩ := I9.out
      rw [← hd] at hr
      have HR := hid (range_below hr (HB2.out.trans (B9.mono (by omega))))
      have HIFD := hid (show (Tryd.prog.info? 24).map (·.size) = some (u8s d).length from by rw [show (u8s d).length = 32 from by simp [u8s, hd32]]; kernel_rfl)
      have HIFA := hid (show (Tryd.prog.info? 24).map (·.size) = some (u8s d).toArray.size from by rw [List.size_toArray, show (u8s d).length = 32 from by simp [u8s, hd32]]; kernel_rfl)
      have HOLD := hid (show (u8s (List.replicate 32 0)).toArray.size = (u8s d).toArray.size from by rw [List.size_toArray, List.size_toArray]; simp [u8s, hd32])
      have HONE := hid (show (u8s d).toArray.all (·.oneCell') = true from all_oneCell_toArray (fun u hu => by
        unfold u8s at hu
        obtain ⟨y, _, rfl⟩ := List.mem_map.1 hu
        rfl))
      have HNW := hid (show (wr.alloc (.cells (u8s (List.replicate 32 0)).toArray 24)).heap[wr.heap.size]? = _ from heap_new _ _)
      have HBA := hid (B9.alloc B9.size (.cells (u8s (List.replicate 32 0)).toArray 24))
      have HST := hid (show (D.take i).flatten ++ d = (D.take (i + 1)).flatten from by
        rw [hd, List.take_add_one, List.getD_eq_getElem?_getD, List.getElem?_eq_getElem (by omega)]
        simp only [List.flatten_append, Option.toList_some, List.flatten_cons, List.flatten_nil, List.append_nil, Option.getD_some])
      have HD32 := hid hd32
      have HDLT := hid hdl
      have HV9 := hid V9
      have HB9 := hid B9
      clear hr hrg hd hdm hd32 hdl V9 B9 I9 hDne
      go_wp2_with (first
        | (refine wpList_load_mid (by rfl) 24 (.tmp 50) (by rfl) b (o + i * 32) (by rfl) (u8s d) _ HR.out Tryd.underlying24 rfl HIFD.out ?_)
        | (refine wpList_store_row (by rfl) 24 (.tmp 7) (.tmp 51) (by rfl) wr.heap.size _ (u8s d).toArray _ (by rfl) (by rfl) HNW.out HIFA.out HOLD.out HONE.out ?_
           intro w8 hw8 hk8))
      have hb8 : Below wr.heap.size wr w8 := ((Below.refl wr.heap.size wr).alloc (Nat.le_refl _) (.cells (u8s (List.replicate 32 0)).toArray 24)).trans (hk8.below (by simp) (Nat.le_refl _))
      have hbs8 : Bs w8 (.slice (some ⟨wr.heap.size, 0, none⟩) 32 32) d := ⟨some ⟨wr.heap.size, 0, none⟩, 32, by rw [HD32.out], HDLT.out, fun _ => ⟨_, 0, rfl, fun i hi => by
        rw [Nat.zero_add, cell_of_heap hw8]
        simp [u8s, hi]⟩⟩
      have V10 := HV9.out.below hb8
      have B10 := HB9.out.trans (hb8.mono HB9.out.size)
      have hlt9 := HV9.out.lt_size
      refine (Raw_any w2.heap.size lim 32 32 (some ⟨wr.heap.size, 0, none⟩) v9 _ d false w8 V10 hbs8 (fun h => by cases h) (by omega) (fun ad h _ => by
        cases h
        exact ⟨(by show wr.heap.size ≠ w2.heap.size; omega), fun e => by
          have h9 : wr.heap.size < wr.heap.size := (HV9.out.own.lt _ e).2
          omega⟩)).mono ?_
      rintro e w11 ⟨rfl, hA⟩
      have hI2 := EncI.step V10 B10 hA (by
        have h1 := HFL.out
        have h2 := HD32.out
        simp only [List.length_append]
        omega)
      rw [List.append_assoc, HST.out] at hI2
      have I10 := hid hI2
      have HFL2 := hid (show (D.take (i + 1)).flatten.length = 32 * (i + 1) from by
        have h1 := HFL.out
        have h2 := HD32.out
        rw [← HST.out, List.length_append]
        omega)
      clear hI2 hA V10 B10 hbs8 hb8 hw8 hk8 hlt9
      go_wp2
      exact ⟨⟨i + 1, by omega, by go_num, I10, HFL2⟩, by simp [intOf]; omega⟩
    · have hit2 : i = t := by omega
      obtain ⟨v9, V9, B9⟩ := I9.out
      have HEQ := hid (show L ++ (D.take i).flatten = encTo k n t s od D t from by
        rw [HL.out, hit2]
        unfold encTo encHead
        rw [beL_one 77 (by omega), beL_one 1 (by omega), beL_one k (by omega), beL_one n (by omega), beL_one t (by omega), beL_two s (by omega)]
        rfl)
      have HLEN := hid (show (L ++ (D.take i).flatten).length = 7 + 32 * (1 + t) from by
        have h1 := HFL.out
        rw [List.length_append]
        omega)
      have HBY := hid (Bytes2_any w2.heap.size lim v9 _ false wr V9)
      have HBF := hid (HB2.out.trans (B9.mono (by omega)))
      clear V9 B9
      have hI : ¬ ((i : Int) < (t : Int)) := by omega
      go_wp2_with fail
      refine HBY.out.mono ?_
      rintro e w11 hres
      obtain ⟨u, rfl, hcp⟩ := hres.2 rfl
      rw [HLEN.out, HEQ.out] at hcp
      have HCP := hid hcp
      clear hcp hres
      go_wp2
      go_ret2
      exact ⟨u, rfl, wr, HCP.out, HBF.out⟩
end Go.Proofs.YtehjikogdaclgaaDoor

namespace Go.Proofs.YtehjikogdaclgaaDoor
open Go.RowKit

theorem testk : ∀ y : Nat, y < 256 → ∀ k : Nat, k < 8 → ((y &&& (2 ^ k % 256)) != 0) = y.testBit k := by decide +kernel
theorem bitk (y k : Nat) (hy : y < 256) (hk : k < 8) : (bits .and .u8 (y : Int) (2 ^ k % 256) != 0) = y.testBit k := by
  have e : ((2 : Int) ^ k % 256) = ((2 ^ k % 256 : Nat) : Int) := by simp
  rw [e, u8_and_nat y _ hy (by omega), ← testk y hy k hk]
  generalize (y &&& (2 ^ k % 256)) = z
  rw [Bool.eq_iff_iff]; simp
theorem hi128 (a : Nat) (ha : a < 256) : (bits .and .u8 (a : Int) 128 != 0) = decide (128 ≤ a) := by
  rw [and128 a ha]
  by_cases h : a < 128
  · rw [and128_lo a ha h, decide_eq_false (by omega)]; rfl
  · rw [and128_hi a ha (by omega), decide_eq_true (by omega)]; rfl

set_option maxRecDepth 100000 in
/-- Times -/
theorem Times_any (x y : Nat) (hx : x < 256) (hy : y < 256) (w : World) :
    Calls Tryd.prog 85 #[.int .u8 x, .int .u8 y] w fun e w' => e = .returned (.int .u8 (Gf.tm x y)) ∧ w = w' := by
  go_enter Tryd.func85, Tryd.ntmps85
  go_wp2
  go_loop [0, 5, 6] (fun a p i => ∃ k : Nat, k ≤ 8 ∧ i = .int .i64 k ∧ p = .int .u8 (Gf.tmTo x y k).1 ∧ a = .int .u8 (Gf.tmTo x y k).2) (fun _ _ i => 8 - (intOf i).toNat)
  case atStart => exact ⟨0, by omega, rfl, rfl, rfl⟩
  case round =>
    obtain ⟨k, hk, rfl, rfl, rfl⟩ := hrel
    by_cases hlt : k < 8
    · obtain ⟨h1, h2⟩ := Gf.tmTo_lt x y hx k
      have hs : Gf.tmTo x y (k + 1) = Gf.tmStep y k (Gf.tmTo x y k) := rfl
      have HS := hid hs
      clear hs
      generalize Gf.tmTo x y k = s at *
      obtain ⟨p, a⟩ := s
      have hb := bitk y k hy hlt
      have hh := hi128 a h2
      have hx1 := hid (u8_xor_nat p a h1 h2)
      by_cases ha : a < 128
      · have hd := hid (dbl_lo a ha)
        rw [decide_eq_false (by omega)] at hh
        cases ht : y.testBit k
        · rw [ht] at hb
          have HT := hid ht
          clear ht
          go_wp2
          exact ⟨⟨k + 1, by omega, by go_num, by rw [HS.out]; simp [Gf.tmStep, HT.out], by rw [HS.out, hd.out]; rfl⟩, by simp [intOf]; omega⟩
        · rw [ht] at hb
          have HT := hid ht
          clear ht
          go_wp2
          exact ⟨⟨k + 1, by omega, by go_num, by rw [HS.out, hx1.out]; simp [Gf.tmStep, HT.out], by rw [HS.out, hd.out]; rfl⟩, by simp [intOf]; omega⟩
      · have hd := hid (dbl_hi a h2 ha)
        rw [decide_eq_true (by omega)] at hh
        cases ht : y.testBit k
        · rw [ht] at hb
          have HT := hid ht
          clear ht
          go_wp2
          exact ⟨⟨k + 1, by omega, by go_num, by rw [HS.out]; simp [Gf.tmStep, HT.out], by rw [HS.out, hd.out]; rfl⟩, by simp [intOf]; omega⟩
        · rw [ht] at hb
          have HT := hid ht
          clear ht
          go_wp2
          exact ⟨⟨k + 1, by omega, by go_num, by rw [HS.out, hx1.out]; simp [Gf.tmStep, HT.out], by rw [HS.out, hd.out]; rfl⟩, by simp [intOf]; omega⟩
    · obtain rfl : k = 8 := by omega
      go_wp2
      go_ret
      exact ⟨rfl, rfl⟩

/-- the least number from i on whose product with x is 1, looked for below 256 -/
theorem over_spec (x : Nat) (hx : x < 256) (k : Nat) (hk : k < 256) (h : Gf.tm x k = 1) : k = Gf.iv x := Gf.iv_unique x k hx hk h
theorem bool_one (n : Nat) : ((n : Int) == 1) = decide (n = 1) := by rw [Bool.eq_iff_iff]; simp; omega

set_option maxRecDepth 100000 in
/-- Over -/
theorem Over_any (x : Nat) (hx : x < 256) (w : World) :
    Calls Tryd.prog 86 #[.int .u8 x] w fun e w' => e = .returned (.int .u8 (if x = 0 then 0 else Gf.iv x : Nat)) ∧ w = w' := by
  obtain ⟨r, hr⟩ : ∃ r : Nat, r = if x = 0 then 0 else Gf.iv x := ⟨_, rfl⟩
  rw [← hr]
  have hex : x ≠ 0 → Gf.tm x r = 1 ∧ r < 256 ∧ 1 ≤ r := fun h0 => by
    rw [if_neg h0] at hr; subst hr
    exact ⟨Gf.tm_iv x hx h0, Gf.iv_lt x, by have := Gf.iv_pos x; omega⟩
  have HR := hid hr
  have HX := hid hex
  clear hr hex
  go_enter Tryd.func86, Tryd.ntmps86
  go_wp2
  go_loop [3] (fun i => ∃ k : Nat, 1 ≤ k ∧ k ≤ 256 ∧ i = .int .i64 k ∧ (x ≠ 0 → k ≤ r)) (fun i => 256 - (intOf i).toNat)
  case atStart => exact ⟨1, by omega, by omega, rfl, fun h => (HX.out h).2.2⟩
  case round =>
    obtain ⟨k, hk1, hk, rfl, hkr⟩ := hrel
    have HK := hid hkr
    clear hkr
    by_cases hlt : k < 256
    · have hbo := bool_one (Gf.tm x k)
      by_cases h1 : Gf.tm x k = 1
      · rw [decide_eq_true h1] at hbo
        have x0 : x ≠ 0 := by rintro rfl; rw [Gf.tm_zero_left] at h1; omega
        have hkv : k = r := by
          have := HR.out; rw [if_neg x0] at this; rw [this]; exact over_spec x hx k hlt h1
        have HV := hid hkv
        clear hkv h1
        go_wp2_with (go_at_call 85; refine (Times_any x k hx hlt _).mono ?_; rintro e w' ⟨rfl, rfl⟩)
        go_ret
        exact ⟨ret_int (by rw [HV.out]), rfl⟩
      · rw [decide_eq_false h1] at hbo
        have hnext : x ≠ 0 → k + 1 ≤ r := fun x0 => by
          have h2 := HK.out x0
          have h3 := (HX.out x0).1
          by_cases e : k = r
          · rw [e] at h1; exact absurd h3 h1
          · omega
        have HN := hid hnext
        clear hnext h1
        go_wp2_with (go_at_call 85; refine (Times_any x k hx hlt _).mono ?_; rintro e w' ⟨rfl, rfl⟩)
        exact ⟨⟨k + 1, by omega, by omega, by go_num, HN.out⟩, by simp [intOf]; omega⟩
    · have x0 : x = 0 := by
        by_cases e : x = 0
        · exact e
        · have h1 := HK.out e; have h2 := (HX.out e).2.1; omega
      have hr0 : r = 0 := by have := HR.out; rwa [if_pos x0] at this
      have H0 := hid hr0
      clear hr0 x0
      go_wp2
      go_ret
      exact ⟨ret_int (by rw [H0.out]; rfl), rfl⟩
end Go.Proofs.YtehjikogdaclgaaDoor
