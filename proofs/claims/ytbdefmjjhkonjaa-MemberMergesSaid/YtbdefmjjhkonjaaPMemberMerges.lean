/-
  MemberMerges: for every input the call returns true, and each argument reads behind it as before. No condition.
-/
import Derived.Test.YtbdefmjjhkonjaaRows
import Derived.Test.YtbdefmjjhkonjaaFacts
import Derived.Test.YtbdefmjjhkonjaaLawMg
import Derived.Test.YtbdefmjjhkonjaaKm
import Derived.Test.YtbdefmjjhkonjaaOpM
import Derived.SizedLaws
import Derived.WalkKit
import Derived.ProofKit
import Derived.OpenShut
import Derived.ShutString
import Derived.ChangeOld
import Derived.Below
namespace Go.Proofs.Ytbdefmjjhkonjaa.memberMerges
open Go.ChangeShapes Go.WideShapes Go.ChangeAt Go.RowKit
set_option linter.unusedVariables false

theorem own : ownKnob Try.prog.godebug = none := by kernel_rfl

set_option maxRecDepth 100000 in
theorem lifted (os : Os) (started : os.Started) (H : Type) (enc : TypeId × Value → H) :
    ReturnsInHanded {} Try.checked os 5 .any (Rows.memberMergesSpec.pre6 enc Try.prog Try.f5 Rows.memberMergesRow.domain false) (Rows.memberMergesSpec.post enc Try.prog Try.f5 false true false false) := by
  refine returnsInHanded_of_change_sized (C := Try.checked) own started (by kernel_rfl) Try.func5
    (ChangeSpec.witness6 (enc := enc) (C := Try.checked) false ⟨#[], #[.slice none 0 0, .slice none 0 0, .slice none 0 0], []⟩ 8 (by kernel_rfl) (by kernel_rfl) (by kernel_rfl) (by kernel_rfl)) ?_
  intro W base args ds gs before hval0 hW hcnd hsz0 _
  have hval : ∀ (j : Nat) t v, Try.f5.params[j]? = some t → args[j]? = some v → Value.okWide Try.prog W .any base t v := hval0
  have hW' := hW
  obtain ⟨p, q, hA0, hV, rfl, hfz, hnd⟩ := hW
  have hA : DataW.TrodAll enc Try.prog W 0 (fun _ => true) true Try.f5.params.toList args.toList ds p := hA0
  have hsz : (DataW.weightsEach Try.prog (Try.f5.params.toList ++ Rows.memberMergesSpec.plain.varTypes Try.prog) (ds ++ gs)).all (· ≤ reachBytes) = true := hsz0
  rw [Try.params5] at hA hval hsz
  obtain ⟨v0, vs0, d0, ds0, p0, q0, hargs, rfl, rfl, h0, r0⟩ := trodAll_cons hA
  obtain ⟨v1, vs1, d1, ds1, p1, q1, rfl, rfl, rfl, h1, r1⟩ := trodAll_cons r0
  obtain ⟨v2, vs2, d2, ds2, p2, q2, rfl, rfl, rfl, h2, r2⟩ := trodAll_cons r1
  obtain ⟨rfl, rfl, rfl⟩ := trodAll_nil r2
  obtain rfl : args = #[v0, v1, v2] := by cases args; simp_all
  obtain ⟨rfl, rfl⟩ := trodVars_none hV
  have k0 := h0
  have lt0 : ∀ x ∈ p0, x.block < W.heap.size := by obtain ⟨m, hm⟩ := k0; exact DataW.trod_lt m _ _ _ hm
  obtain ⟨a0, len0, cap0, rfl⟩ := okWide_slice Try.underlying22 (hval 0 22 v0 rfl rfl)
  obtain ⟨L0, ht0, hz0⟩ : ∃ L, Tb W (.slice a0 len0 cap0) L ∧ len0 ≤ 8796093022208 := by
    obtain ⟨fuel, hf⟩ := h0
    obtain ⟨v', hcs, a', n', c', L', hv, ht, hln⟩ := open_tab hf
    simp [Value.cells] at hcs
    subst hcs
    simp only [Value.slice.injEq] at hv
    obtain ⟨rfl, rfl, rfl⟩ := hv
    refine ⟨L', ht, ?_⟩
    rcases hln with h0 | ⟨es, sp, hx, hl⟩
    · omega
    · have hb := sized_slice hsz (j := 0) (t := 22) (e := 36) rfl (elems := es) (spare := sp) (by rw [← hx]; rfl) Try.underlying22
      rw [bytesE] at hb
      simp only [reachBytes] at hb
      omega
  have k1 := h1
  have lt1 : ∀ x ∈ p1, x.block < W.heap.size := by obtain ⟨m, hm⟩ := k1; exact DataW.trod_lt m _ _ _ hm
  obtain ⟨a1, len1, cap1, rfl⟩ := okWide_slice Try.underlying22 (hval 1 22 v1 rfl rfl)
  obtain ⟨L1, ht1, hz1⟩ : ∃ L, Tb W (.slice a1 len1 cap1) L ∧ len1 ≤ 8796093022208 := by
    obtain ⟨fuel, hf⟩ := h1
    obtain ⟨v', hcs, a', n', c', L', hv, ht, hln⟩ := open_tab hf
    simp [Value.cells] at hcs
    subst hcs
    simp only [Value.slice.injEq] at hv
    obtain ⟨rfl, rfl, rfl⟩ := hv
    refine ⟨L', ht, ?_⟩
    rcases hln with h0 | ⟨es, sp, hx, hl⟩
    · omega
    · have hb := sized_slice hsz (j := 1) (t := 22) (e := 36) rfl (elems := es) (spare := sp) (by rw [← hx]; rfl) Try.underlying22
      rw [bytesE] at hb
      simp only [reachBytes] at hb
      omega
  have k2 := h2
  have lt2 : ∀ x ∈ p2, x.block < W.heap.size := by obtain ⟨m, hm⟩ := k2; exact DataW.trod_lt m _ _ _ hm
  obtain ⟨a2, len2, cap2, rfl⟩ := okWide_slice Try.underlying22 (hval 2 22 v2 rfl rfl)
  obtain ⟨L2, ht2, hz2⟩ : ∃ L, Tb W (.slice a2 len2 cap2) L ∧ len2 ≤ 8796093022208 := by
    obtain ⟨fuel, hf⟩ := h2
    obtain ⟨v', hcs, a', n', c', L', hv, ht, hln⟩ := open_tab hf
    simp [Value.cells] at hcs
    subst hcs
    simp only [Value.slice.injEq] at hv
    obtain ⟨rfl, rfl, rfl⟩ := hv
    refine ⟨L', ht, ?_⟩
    rcases hln with h0 | ⟨es, sp, hx, hl⟩
    · omega
    · have hb := sized_slice hsz (j := 2) (t := 22) (e := 36) rfl (elems := es) (spare := sp) (by rw [← hx]; rfl) Try.underlying22
      rw [bytesE] at hb
      simp only [reachBytes] at hb
      omega
  clear hA0 hval0
  refine (merges_walk known_m a0 len0 cap0 L0 a1 len1 cap1 L1 a2 len2 cap2 L2 W ht0 ht1 ht2 hz0 hz1 hz2).mono fun e W' ⟨he, bel⟩ => ?_
  subst he
  exact ⟨_, rfl, _, _, _, [], _, [], hW', trodAll_mk1 (shut_bool Try.underlying4 _), (trodAll_cons_mk (Below.trod Facts.laidOut (by kernel_rfl) (of_decide_eq_true (by kernel_rfl)) k0 bel lt0) (trodAll_cons_mk (Below.trod Facts.laidOut (by kernel_rfl) (of_decide_eq_true (by kernel_rfl)) k1 bel lt1) (trodAll_cons_mk (Below.trod Facts.laidOut (by kernel_rfl) (of_decide_eq_true (by kernel_rfl)) k2 bel lt2) trodAll_mk0))), rfl, bel.frame _, fun h => by cases h⟩

set_option maxHeartbeats 4000000 in
set_option maxRecDepth 1000000 in
theorem closed : joinedFacts Try.pinned.checked.prog 5 Try.f5 Rows.memberMergesSpec Rows.memberMergesRow = true := by
  unfold joinedFacts
  refine (Facts.and2 (Facts.and2 (Facts.and2 (Facts.and2 (Facts.and2 (Facts.and2 (Facts.and2 (Facts.and2 (Facts.and2 (Facts.and2 (Facts.and2 (Facts.and2 (Facts.and2 (Facts.and2 (Facts.and2 (Facts.and2 (Facts.and2 (Facts.and2 (Facts.and2 (Facts.and2 (Facts.and2 (Facts.and2 (Facts.and2 (Facts.and2 (Facts.and2 (Facts.and2 (Facts.and2 (Facts.and2 (Facts.and2 (Facts.and2 (Facts.and2 ?_ Facts.laidOut) Facts.mapsR) ?_) ?_) ?_) Facts.stops) ?_) Facts.knobs) ?_) ?_) ?_) ?_) ?_) ?_) ?_) ?_) ?_) ?_) ?_) ?_) ?_) Facts.keys) ?_) Facts.heard) Facts.enter) ?_) ?_) ?_) ?_) ?_) ?_)
  all_goals (as_aux_lemma => kernel_rfl)

theorem over : Rows.memberMergesRow.holds Try.pinned (OpenSpec.ofChange Rows.memberMergesSpec) :=
  OpenClaim.holds_of_wide 5 Try.f5 rfl rfl rfl rfl rfl rfl rfl ⟨rfl, rfl, rfl, rfl, rfl⟩ rfl rfl rfl rfl rfl (by as_aux_lemma => kernel_rfl) Try.func5 closed
    (of_decide_eq_true (by as_aux_lemma => kernel_rfl)) (by unfold Func.isWrapper; first | (rw [if_pos (by decide +kernel)]; kernel_rfl) | (rw [if_neg (by decide +kernel)]; exact ⟨rfl, rfl⟩))
    (fun os started H enc _ => lifted os started H enc)
end Go.Proofs.Ytbdefmjjhkonjaa.memberMerges
namespace Go.Proofs.Ytbdefmjjhkonjaa
theorem memberMerges_holds : Rows.MemberMergesSaid := memberMerges.over
#print axioms memberMerges_holds
end Go.Proofs.Ytbdefmjjhkonjaa
