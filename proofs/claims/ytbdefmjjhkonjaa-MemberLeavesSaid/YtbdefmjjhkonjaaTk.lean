/-
  The first Tick of a machine.
-/
import Derived.Test.YtbdefmjjhkonjaaPrb
namespace Go.Proofs.Ytbdefmjjhkonjaa
open Go Go.RowKit
set_option linter.unusedVariables false

theorem infoM : (Try.prog.info? 56).map (fun i => (i.zero.map (fun z => z.cells.size), i.size, i.bytes)) = some (some 116, 116, 352) := by kernel_rfl
theorem info_partsM : ∃ i z, Try.prog.info? 56 = some i ∧ i.zero = some z ∧ i.size = 116 ∧ i.bytes = 352 ∧ z.cells.size = 116 := by
  obtain ⟨i, hi, h⟩ := Option.map_eq_some_iff.1 infoM
  simp only [Prod.mk.injEq] at h
  obtain ⟨h1, h2, h3⟩ := h
  obtain ⟨z, hz, h4⟩ := Option.map_eq_some_iff.1 h1
  exact ⟨i, z, hi, hz, h2, h3, h4⟩
theorem msg_one (k f t s o g : Int) (a : Option Addr) (n c : Nat) : ∀ u ∈ msg k f t s o g (.slice a n c) rest0, u.oneCell' = true := fun u hu => by
  have h : (msg k f t s o g (.slice a n c) rest0).all (·.oneCell') = true := by kernel_rfl
  exact List.all_eq_true.1 h u hu

theorem msgAt_of_owns {w : World} {base g cap : Nat} {k f t s o gg : Int} {tv : Value} (h : w.ownsRow base 56 116 (.slice (some ⟨g, 0, none⟩) 1 cap) 1 (msg k f t s o gg tv rest0)) : MsgAt w g k f t s o gg tv rest0 := by
  rcases h.2 with ⟨h1, _⟩ | ⟨g', cap', cur, h3, h4, h5, h6, h7, h8, h9⟩
  · cases h1
  · simp only [Value.slice.injEq, Option.some.injEq, Addr.mk.injEq, and_true, true_and] at h3
    obtain ⟨rfl, _⟩ := h3
    exact ⟨cur, _, h5, by rw [rest0_length]; exact h9⟩

set_option maxRecDepth 100000 in
set_option maxHeartbeats 2000000 in
theorem Tick_first {mb tb sb n me : Nat} {L : List Ent} {Z : List Int} {dare : Int} (ck last pg : Nat) (draw : Int) (w : World) (h : Mc w mb tb sb n me L Z ck (.slice none 0 0) last pg dare) (hpg : pg < n) (hme : me < n) (h2 : 2 ≤ n) (hn : n ≤ 16) (hl : last < 1000000000000) (hck : ck < 1000000000000)
    (hs : ∀ i, ((gd L i).2 == 2) = false) (h4 : ((gd L me).2 == 4) = false) :
    Calls Try.prog 36 #[.pointer (some ⟨mb, 0, none⟩), .int .u64 draw] w fun e w' => ∃ g c v pv', e = .returned (.slice (some ⟨g, 0, none⟩) 1 c) ∧ MsgAt w' g 1 me (nxt n me pg : Nat) ((last : Int) + 1) me 0 v rest0 ∧
      w'.ownsRow w.heap.size 36 2 v n (ecl L) ∧ Mc w' mb tb sb n me L Z ((ck : Int) + 1) pv' ((last : Int) + 1) (nxt n me pg : Nat) dare ∧ w.heap.size ≤ g ∧ Held [mb] w w' := by
  have HL := hid (hasLeft_any w h hme)
  rw [h4] at HL
  have HM := hid h
  have HS := hid hs
  have hmw := lt_of_heap h.m
  have htw := h.t.lt
  have hsw := lt_of_heap h.s
  clear h hs h4
  go_enter Try.func36, Try.ntmps36
  go_wp2_with fail
  refine HL.out.mono ?_
  rintro e w1 ⟨rfl, q, rfl⟩
  clear HL
  have HM1 := hid (HM.out.drewN q)
  obtain ⟨c0, c1, c2, c3, c4, c5, c6, c7⟩ := mch_cells HM1.out.m
  have f3 : (w.drewN q).frozen? ⟨mb, 3, none⟩ = false := free_of_heap HM1.out.m 3
  go_upto_region 4 with fail
  have HM2 := hid (HM1.out.clock ((ck : Int) + 1))
  have HH2 := hid (((Held.refl [mb] w).drewN q).setCell (p := ⟨mb, 3, none⟩) (by simp) (.int .u64 ((ck : Int) + 1)))
  obtain ⟨w2, hw2⟩ : ∃ y, y = (w.drewN q).setCell ⟨mb, 3, none⟩ (.int .u64 ((ck : Int) + 1)) := ⟨_, rfl⟩
  rw [← hw2] at HM2 HH2 ⊢
  clear hw2 HM1 c0 c1 c2 c3 c4 c5 c6 c7 f3
  go_wp2_with fail
  refine (checkProbes_none draw w2 HM2.out).mono ?_
  rintro e w3 ⟨rfl, hM3, hH3⟩
  have HM3 := hid hM3
  have HH3 := hid (HH2.out.trans hH3)
  clear HM2 HH2 hM3 hH3
  go_wp2_with fail
  refine (checkSuspects_none w3 HM3.out hn HS.out).mono ?_
  rintro e w4 ⟨rfl, hb4⟩
  have HM4 := hid (HM3.out.below hb4)
  have HH4 := hid (HH3.out.trans (Held.of_below (S := [mb]) hb4))
  clear HM3 HH3 hb4
  go_wp2_with fail
  have h4s := HH4.out.size
  refine (probe_any w4.heap.size 0 last pg [] w4 HM4.out (owns_nil _ _ _ _) hpg h2 hn hl (by omega) (fun g e => by cases e) (Nat.le_refl _)).mono ?_
  rintro e w5 ⟨pv', rfl, hM5, hP5, hG5, hH5⟩
  have HM5 := hid hM5
  have HH5 := hid (HH4.out.trans hH5)
  clear hP5 hG5 hM5 hH5 HM4 HH4
  have h5s := HH5.out.size
  obtain ⟨r, hr⟩ : ∃ r, r = nxt n me pg := ⟨_, rfl⟩
  rw [← hr] at HM5 ⊢
  have HR := hid hr
  clear hr
  obtain ⟨i0, z, hi0, hz0, hz1, hz2, hz3⟩ := info_partsM
  have hml : (msg 1 0 r ((last : Int) + 1) me 0 (.slice none 0 0) rest0).length = 116 := by rw [msg_length, rest0_length]
  go_wp2_with (refine wpList_append_lies _ rfl (.tmp 25) (.tmp 28) _ rfl w5.heap.size 56 i0 z 116 352 Try.underlying68 hi0 hz0 hz1 hz2 hz3 (by decide) (.slice none 0 0) 0 [] rfl (owns_nil _ _ _ _) ⟨w5.heap.size, 0, none⟩ 1 1 (msg 1 0 r ((last : Int) + 1) me 0 (.slice none 0 0) rest0) rfl (by kernel_rfl) ?hnews (msg_one _ _ _ _ _ _ _ _ _) (by omega) (by unfold maxLen; omega) (by omega) (by simp) _ rfl ?_)
  case hnews =>
    exact fun j u hu => World.news_of_block (heap_new_at _ _ (by simp)) j u (Eq.trans (congrArg (fun l : List Value => l[j]?) (by kernel_rfl)) hu)
  intro g cap w6 ho6 hg6 hat6 hlt6
  have hgw : w5.heap.size < g := by have := hat6.resolve_left (fun e => by cases e); omega
  have hb6 : Below w5.heap.size w5 w6 := ((Below.refl w5.heap.size w5).alloc (Nat.le_refl _) _).grown hg6 (by simp) (fun g hg => by cases hg)
  have HM6 := hid (HM5.out.below hb6)
  have HH6 := hid (HH5.out.trans (Held.of_below (S := [mb]) hb6))
  have HG6 := hid (msgAt_of_owns ho6)
  clear ho6 hg6 hat6 hb6 HM5 HH5
  go_wp2_with fail
  refine (complete_one g cap 1 0 r ((last : Int) + 1) me 0 (.slice none 0 0) rest0 w6 HM6.out HG6.out (by omega) (by omega) (by omega) (by omega) hn).mono ?_
  rintro e w7 ⟨v, rfl, hG7, hO7, hH7⟩
  have h6s := HH6.out.size
  have HM7 := hid (HM6.out.held hH7 (by simp; omega) (by simp; omega) (by simp; omega))
  have HH7 := hid (HH6.out.step hH7 (fun b hb => .inr (by simp at hb; omega)))
  have HG7 := hid hG7
  have HO7 := hid (owns_mono hO7 h6s)
  clear hG7 hO7 hH7 HM6 HH6 HG6
  go_wp2
  go_ret
  exact ⟨g, cap, v, pv', rfl, by rw [← HR.out]; exact HG7.out, HO7.out, by rw [← HR.out]; exact HM7.out, by omega, HH7.out⟩
end Go.Proofs.Ytbdefmjjhkonjaa
