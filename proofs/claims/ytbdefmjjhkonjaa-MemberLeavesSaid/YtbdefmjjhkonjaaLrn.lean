/-
  learn: the table of a message is merged into the machine's.
-/
import Derived.Test.YtbdefmjjhkonjaaSet
import Derived.Deep.DeepCutAuto
namespace Go.Proofs.Ytbdefmjjhkonjaa
open Go Go.RowKit
set_option linter.unusedVariables false

/-- one entry of a message's table is taken into account -/
def lst (me : Nat) (ck : Int) (T : List Ent) (s : List Ent × List Int × Int) (i : Nat) : List Ent × List Int × Int :=
  if i = me then (s.1, s.2.1, if nw (gd T i) (gd s.1 i) = true then max s.2.2 (gd T i).1 else s.2.2)
  else (s.1.set i (jn (gd s.1 i) (gd T i)), zset s.1 s.2.1 ck i (jn (gd s.1 i) (gd T i)), s.2.2)
/-- the first k entries are -/
def lrn (me : Nat) (ck : Int) (T L : List Ent) (Z : List Int) (d : Int) (k : Nat) : List Ent × List Int × Int := (List.range k).foldl (lst me ck T) (L, Z, d)
theorem lrn_succ (me : Nat) (ck : Int) (T L : List Ent) (Z : List Int) (d : Int) (k : Nat) : lrn me ck T L Z d (k + 1) = lst me ck T (lrn me ck T L Z d k) k := by simp [lrn, List.range_succ]
theorem Mc.dare {w : World} {mb tb sb n me : Nat} {L : List Ent} {Z : List Int} {ck : Int} {pv : Value} {last pg dare : Int} (h : Mc w mb tb sb n me L Z ck pv last pg dare) (d : Int) :
    Mc (w.setCell ⟨mb, 7, none⟩ (.int .u64 d)) mb tb sb n me L Z ck pv last pg d :=
  ⟨by rw [heap_set h.m]; rfl, by unfold Row; rw [heap_set_other h.mt]; exact h.t, by rw [heap_set_other h.ms]; exact h.s, h.ln, h.zn, h.mt, h.ms, h.ts⟩
theorem undrew {w w' : World} (h : Below w.drew.heap.size w.drew w') : Below w.heap.size w w' := ⟨h.os, h.tape, h.output, h.size, h.block⟩
theorem max_int (a b : Int) : (if a < b then b else a) = max a b := by omega

set_option maxRecDepth 100000 in
set_option maxHeartbeats 2000000 in
theorem learn_any {mb tb sb n me : Nat} {L : List Ent} {Z : List Int} {ck : Int} {pv : Value} {last pg dare : Int} (a : Option Addr) (c : Nat) (T : List Ent) (w : World) (h : Mc w mb tb sb n me L Z ck pv last pg dare) (ht : Tb w (.slice a n c) T)
    (hc : Clear [mb, tb, sb] (.slice a n c)) (hn : n ≤ 16) :
    Calls Try.prog 79 #[.pointer (some ⟨mb, 0, none⟩), .slice a n c] w fun e w' => e = .returned (.tuple #[]) ∧
      Mc w' mb tb sb n me (lrn me ck T L Z dare n).1 (lrn me ck T L Z dare n).2.1 ck pv last pg (lrn me ck T L Z dare n).2.2 ∧ Held [mb, tb, sb] w w' := by
  have HT := hid ht
  have HC := hid hc
  have HM0 := hid (show Mc w mb tb sb n me (lrn me ck T L Z dare 0).1 (lrn me ck T L Z dare 0).2.1 ck pv last pg (lrn me ck T L Z dare 0).2.2 from h)
  clear h ht hc
  go_enter Try.func79, Try.ntmps79
  go_wp2
  go_loopw [8] (fun iv wr => ∃ i : Nat, i ≤ n ∧ iv = .int .i64 i ∧ Hid (Mc wr mb tb sb n me (lrn me ck T L Z dare i).1 (lrn me ck T L Z dare i).2.1 ck pv last pg (lrn me ck T L Z dare i).2.2) ∧ Hid (Held [mb, tb, sb] w wr)) (fun iv _ => n - (intOf iv).toNat)
  case atStart => exact ⟨0, by omega, rfl, HM0, hid (Held.refl _ _)⟩
  case round =>
    clear HM0
    obtain ⟨i, hi, rfl, HM, HH⟩ := hrel
    by_cases hlt : i < n
    · have HS := hid (lrn_succ me ck T L Z dare i)
      generalize hS : lrn me ck T L Z dare i = S at *
      obtain ⟨L', Z', d'⟩ := S
      clear hS
      obtain ⟨b, o, rfl, hbl⟩ := HT.out.addr (by omega)
      have HTr := hid (HT.out.held HH.out HC.out)
      obtain ⟨q0, q1⟩ := HTr.out.cells i hlt
      have hmr := lt_of_heap HM.out.m
      have htr := HM.out.t.lt
      have hsr := lt_of_heap HM.out.s
      obtain ⟨x2, hx2⟩ : ∃ y, y = (gd T i).1 := ⟨_, rfl⟩
      obtain ⟨s2, hs2⟩ : ∃ y, y = (gd T i).2 := ⟨_, rfl⟩
      rw [← hx2] at q0
      rw [← hs2] at q1
      have HG2 := hid (show gd T i = (x2, s2) by rw [hx2, hs2])
      clear hx2 hs2
      -- the entry in a block of its own
      have hbw : Below wr.heap.size wr (wr.alloc (.cells #[.int .u64 x2, .int .u8 s2] 36)) := (Below.refl _ _).alloc (Nat.le_refl _) _
      have HMw := hid (HM.out.below hbw)
      have HHw := hid (HH.out.alloc (.cells #[.int .u64 x2, .int .u8 s2] 36))
      have HEw := hid (heap_new wr (.cells #[.int .u64 x2, .int .u8 s2] 36))
      obtain ⟨w1, hw1⟩ : ∃ y, y = wr.alloc (.cells #[.int .u64 x2, .int .u8 s2] 36) := ⟨_, rfl⟩
      rw [← hw1] at HMw HHw HEw
      clear hbw
      obtain ⟨c0, c1, c2, c3, c4, c5, c6, c7⟩ := mch_cells HMw.out.m
      have hln := HMw.out.ln
      obtain ⟨r0, r1⟩ := HMw.out.t.cells i (by show i < L'.length; simp only at hln; omega)
      have e0 : w1.cell? ⟨wr.heap.size, 0, none⟩ = some (.int .u64 x2) := by rw [cell_of_heap HEw.out]; rfl
      have e1 : w1.cell? ⟨wr.heap.size, 1, none⟩ = some (.int .u8 s2) := by rw [cell_of_heap HEw.out]; rfl
      clear hln
      clear q0 q1
      have hcat := HTr.out.cells i hlt
      rw [HG2.out] at hcat
      obtain ⟨q0, q1⟩ := hcat
      go_upto_region 3 with fail
      rw [← hw1]
      clear hw1 q0 q1
      by_cases hme : i = me
      · have hne : ((i : Int) != (me : Int)) = false := by simp; omega
        obtain ⟨x1, hx1⟩ : ∃ y, y = (gd L' i).1 := ⟨_, rfl⟩
        obtain ⟨s1, hs1⟩ : ∃ y, y = (gd L' i).2 := ⟨_, rfl⟩
        have HG1 := hid (show gd L' i = (x1, s1) by rw [hx1, hs1])
        simp only [← hx1, ← hs1] at r0 r1
        clear hx1 hs1
        have HME := hid hme
        clear hme
        cases hnw : nw (x2, s2) (x1, s1) with
        | true =>
          have HN := hid (Newer_any x2 s2 x1 s1)
          rw [hnw] at HN
          have HST := hid (show lst me ck T (L', Z', d') i = (L', Z', max d' x2) from by unfold lst; rw [if_pos HME.out]; simp only [HG1.out, HG2.out, hnw, if_true])
          clear hnw
          go_wp2_with fail
          go_region_with (go_at_call 27; refine (HN.out _).mono ?_; rintro e wA ⟨rfl, hbA⟩)
          all_goals
            have hbA' : Below w1.heap.size w1 wA := by first | exact hbA | exact undrew hbA
            have HHA := hid (HHw.out.trans (Held.of_below hbA'))
            have HMA := hid (HMw.out.below hbA')
            have HEA := hid ((hbA'.block _ (lt_of_heap HEw.out)).trans HEw.out)
            clear hbA hbA' c0 c1 c2 c3 c4 c5 c6 c7 r0 r1 e0 e1
            obtain ⟨c0, c1, c2, c3, c4, c5, c6, c7⟩ := mch_cells HMA.out.m
            have f7 : wA.frozen? ⟨mb, 7, none⟩ = false := free_of_heap HMA.out.m 7
            have e0 : wA.cell? ⟨wr.heap.size, 0, none⟩ = some (.int .u64 x2) := by rw [cell_of_heap HEA.out]; rfl
            go_wp2_with fail
            go_region_with (fail)
            all_goals
              have HMB := hid ((HMA.out.dare (if d' < x2 then x2 else d')).drewN 1)
              have HK := hid ((HHA.out.setCell (p := ⟨mb, 7, none⟩) (by simp) (.int .u64 (if d' < x2 then x2 else d'))).drewN 1)
              have HE := hid (show lrn me ck T L Z dare (i + 1) = (L', Z', if d' < x2 then x2 else d') from by rw [HS.out, HST.out, max_int])
              generalize (if d' < x2 then x2 else d') = dm at *
              clear c0 c1 c2 c3 c4 c5 c6 c7 e0 f7
              go_wp2_with fail
              exact ⟨⟨i + 1, by omega, by go_num, hid (by rw [HE.out]; exact HMB.out), hid HK.out⟩, by simp [intOf]; omega⟩
        | false =>
          have HN := hid (Newer_any x2 s2 x1 s1)
          rw [hnw] at HN
          have HST := hid (show lst me ck T (L', Z', d') i = (L', Z', d') from by unfold lst; rw [if_pos HME.out]; simp only [HG1.out, HG2.out, hnw, Bool.false_eq_true, if_false])
          clear hnw
          go_wp2_with fail
          go_region_with (go_at_call 27; refine (HN.out _).mono ?_; rintro e wA ⟨rfl, hbA⟩)
          all_goals
            have hbA' : Below w1.heap.size w1 wA := by first | exact hbA | exact undrew hbA
            have HK := hid (HHw.out.trans (Held.of_below hbA'))
            have HMB := hid (HMw.out.below hbA')
            clear hbA hbA' c0 c1 c2 c3 c4 c5 c6 c7 r0 r1 e0 e1
            go_wp2_with fail
            exact ⟨⟨i + 1, by omega, by go_num, by rw [HS.out, HST.out]; exact HMB, HK⟩, by simp [intOf]; omega⟩
      · have HST := hid (show lst me ck T (L', Z', d') i = (L'.set i (jn (gd L' i) (gd T i)), zset L' Z' ck i (jn (gd L' i) (gd T i)), d') from by unfold lst; rw [if_neg hme])
        have hne : ((i : Int) != (me : Int)) = true := by simp; omega
        obtain ⟨x1, hx1⟩ : ∃ y, y = (gd L' i).1 := ⟨_, rfl⟩
        obtain ⟨s1, hs1⟩ : ∃ y, y = (gd L' i).2 := ⟨_, rfl⟩
        have HG1 := hid (show gd L' i = (x1, s1) by rw [hx1, hs1])
        simp only [← hx1, ← hs1] at r0 r1
        clear hx1 hs1 hme
        have HJ := hid (Join_any x1 s1 x2 s2)
        obtain ⟨jx, hjx⟩ : ∃ y, y = (jn (x1, s1) (x2, s2)).1 := ⟨_, rfl⟩
        obtain ⟨js, hjs⟩ : ∃ y, y = (jn (x1, s1) (x2, s2)).2 := ⟨_, rfl⟩
        rw [← hjx, ← hjs] at HJ
        have HGJ := hid (show jn (x1, s1) (x2, s2) = (jx, js) by rw [hjx, hjs])
        clear hjx hjs
        go_wp2_with fail
        go_region_with (first | (go_at_call 28; refine (HJ.out _).mono ?_; rintro e wA ⟨rfl, hbA⟩) | (go_at_call 85; refine (set_any i jx js _ (HMw.out.below (by first | exact hbA | exact undrew hbA)) hlt hn).mono ?_; rintro e wB ⟨rfl, hMB, hHB⟩))
        all_goals
          have hbA' : Below w1.heap.size w1 wA := by first | exact hbA | exact undrew hbA
          have HK := hid ((HHw.out.trans (Held.of_below hbA')).trans (hHB.more (S' := [mb, tb, sb]) (fun b hb => by simp at hb ⊢; omega)))
          have HMB := hid hMB
          have HE := hid (show lrn me ck T L Z dare (i + 1) = (L'.set i (jx, js), zset L' Z' ck i (jx, js), d') from by rw [HS.out, HST.out, HG1.out, HG2.out, HGJ.out])
          clear hbA hbA' hHB hMB c0 c1 c2 c3 c4 c5 c6 c7 r0 r1 e0 e1
          go_wp2_with fail
          exact ⟨⟨i + 1, by omega, by go_num, by rw [HE.out]; exact HMB, HK⟩, by simp [intOf]; omega⟩
    · obtain rfl : i = n := by omega
      go_wp2
      go_end0
      exact ⟨rfl, HM.out, HH.out⟩
end Go.Proofs.Ytbdefmjjhkonjaa
