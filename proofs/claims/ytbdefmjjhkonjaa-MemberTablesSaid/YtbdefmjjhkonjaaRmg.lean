/-
  The reference's Merge and Live; sameInts.
-/
import Derived.Test.YtbdefmjjhkonjaaMgC
import Derived.Test.YtbdefmjjhkonjaaSt
namespace Go.Proofs.Ytbdefmjjhkonjaa
open Go Go.RowKit
set_option linter.unusedVariables false

theorem ent_one (x s : Int) : ∀ u ∈ [Value.int .u64 x, .int .u8 s], u.oneCell' = true := fun u hu => by
  simp only [List.mem_cons, List.not_mem_nil, or_false] at hu
  rcases hu with rfl | rfl <;> rfl
theorem owns_empty (w : World) (e : TypeId) (s : Nat) : (w.alloc (.cells #[] e)).ownsRow w.heap.size e s (.slice (some ⟨w.heap.size, 0, none⟩) 0 0) 0 [] := ⟨by simp, .inr ⟨w.heap.size, 0, #[], rfl, Nat.le_refl _, heap_new _ _, Nat.le_refl _, Nat.zero_le _, by simp, by simp⟩⟩
theorem owns_base {w : World} {base base' n s : Nat} {e : TypeId} {v : Value} {xs : List Value} (h : w.ownsRow base e s v n xs) (hb : base' ≤ base) : w.ownsRow base' e s v n xs :=
  ⟨h.1, h.2.imp id fun ⟨g, cap, cur, h3, h4, r⟩ => ⟨g, cap, cur, h3, Nat.le_trans hb h4, r⟩⟩
theorem undrew2 {B : Nat} {a w w' : World} (h : Below B a w) (k : Below w.drew.heap.size w.drew w') (hB : B ≤ w.heap.size) : Below B a w' := h.trans (show Below B w w' from ⟨k.os, k.tape, k.output, k.size, fun i hi => k.block i (Nat.lt_of_lt_of_le hi hB)⟩)

set_option maxRecDepth 100000 in
set_option maxHeartbeats 2000000 in
theorem RMerge_any (a1 : Option Addr) (n1 c1 : Nat) (A : List Ent) (a2 : Option Addr) (n2 c2 : Nat) (B : List Ent) (w : World) (ht1 : Tb w (.slice a1 n1 c1) A) (ht2 : Tb w (.slice a2 n2 c2) B) (h1 : n1 ≤ 100000) (h2 : n2 ≤ 100000) :
    Calls Try.prog 20 #[.slice a1 n1 c1, .slice a2 n2 c2] w fun e w' => ∃ v, e = .returned (.tuple #[v, .int .i64 (mErr A B)]) ∧ w'.ownsRow w.heap.size 36 2 v (mTab A B).length (ecl (mTab A B)) ∧ Below w.heap.size w w' := by
  have HN1 := hid ht1.len
  have HN2 := hid ht2.len
  have HT1 := hid ht1
  have HT2 := hid ht2
  have HV1 := hid (RValid_any a1 n1 c1 A w ht1 (by omega))
  have HV2 := hid (fun (wx : World) (hx : Tb wx (.slice a2 n2 c2) B) => RValid_any a2 n2 c2 B wx hx (by omega))
  clear ht1 ht2
  cases hv1 : vld A with
  | false =>
    have HE := hid (show mErr A B = 2 ∧ mTab A B = [] by simp [mErr, mTab, hv1])
    rw [hv1] at HV1
    clear hv1
    go_enter Try.func20, Try.ntmps20
    go_wp2_with fail
    refine HV1.out.mono ?_
    rintro e w1 ⟨rfl, hb1⟩
    have HB1 := hid hb1
    clear hb1 HV1
    go_wp2
    go_ret2
    rw [HE.out.1, HE.out.2]
    exact ⟨_, rfl, owns_nil _ _ _ _, HB1.out⟩
  | true =>
    rw [hv1] at HV1
    cases hv2 : vld B with
    | false =>
      have HE := hid (show mErr A B = 2 ∧ mTab A B = [] by simp [mErr, mTab, hv1, hv2])
      rw [hv2] at HV2
      clear hv1 hv2
      go_enter Try.func20, Try.ntmps20
      go_wp2_with fail
      refine HV1.out.mono ?_
      rintro e w1 ⟨rfl, hb1⟩
      have HB1 := hid hb1
      clear hb1 HV1
      go_wp2_with fail
      refine (HV2.out _ (HT2.out.below HB1.out)).mono ?_
      rintro e w2 ⟨rfl, hb2⟩
      have HB2 := hid (HB1.out.trans (hb2.mono HB1.out.size))
      clear hb2
      go_wp2
      go_ret2
      rw [HE.out.1, HE.out.2]
      exact ⟨_, rfl, owns_nil _ _ _ _, HB2.out⟩
    | true =>
      rw [hv2] at HV2
      by_cases hne : n1 = n2
      · have hl : A.length = B.length := by have := HN1.out; have := HN2.out; omega
        have HE := hid (show mErr A B = 0 ∧ mTab A B = mrg A B n1 by simp [mErr, mTab, hv1, hv2, hl, HN1.out])
        have HNN := hid hne
        have e0 : ((n1 : Int) != n2) = false := by simp [hne]
        clear hv1 hv2 hne hl
        go_enter Try.func20, Try.ntmps20
        go_wp2_with fail
        refine HV1.out.mono ?_
        rintro e w1 ⟨rfl, hb1⟩
        have HB1 := hid hb1
        clear hb1 HV1
        go_wp2_with fail
        refine (HV2.out _ (HT2.out.below HB1.out)).mono ?_
        rintro e w2 ⟨rfl, hb2⟩
        have HB2 := hid (HB1.out.trans (hb2.mono HB1.out.size))
        clear hb2 HV2 HB1
        go_upto_region 6 with fail
        have hg := HB2.out.size
        have HB3 := hid (HB2.out.alloc hg (.cells #[] 36))
        have HO3 := hid (show (w2.alloc (.cells #[] 36)).ownsRow w.heap.size 36 2 (.slice (some ⟨w2.heap.size, 0, none⟩) 0 0) 0 (ecl (mrg A B 0)) from owns_base (owns_empty w2 _ 2) hg)
        go_wp2
        go_loopw [6, 7] (fun v iv wr => ∃ i : Nat, i ≤ n1 ∧ iv = .int .i64 i ∧ Hid (wr.ownsRow w.heap.size 36 2 v i (ecl (mrg A B i))) ∧ Hid (Below w.heap.size w wr)) (fun _ iv _ => n1 - (intOf iv).toNat)
        case atStart => exact ⟨0, by omega, rfl, HO3, HB3⟩
        case round =>
          clear HO3 HB3 hg
          obtain ⟨i, hi, rfl, HO, HB⟩ := hrel
          by_cases hlt : i < n1
          · obtain ⟨b1, o1, rfl, hb1⟩ := HT1.out.addr (by omega)
            obtain ⟨b2, o2, rfl, hb2⟩ := HT2.out.addr (by rw [← HNN.out]; omega)
            have hlt2 : i < n2 := HNN.out ▸ hlt
            obtain ⟨q0, q1⟩ := (HT1.out.below HB.out).cells i hlt
            obtain ⟨r0, r1⟩ := (HT2.out.below HB.out).cells i hlt2
            have HJ := hid (fun wx => RJoin_any (gd A i).1 (gd A i).2 (gd B i).1 (gd B i).2 wx)
            have HST := hid (mrg_succ A B i)
            obtain ⟨jx, hjx⟩ : ∃ y, y = (jn (gd A i) (gd B i)).1 := ⟨_, rfl⟩
            obtain ⟨js, hjs⟩ : ∃ y, y = (jn (gd A i) (gd B i)).2 := ⟨_, rfl⟩
            rw [show jn ((gd A i).1, (gd A i).2) ((gd B i).1, (gd B i).2) = jn (gd A i) (gd B i) from rfl, ← hjx, ← hjs] at HJ
            rw [show jn (gd A i) (gd B i) = (jx, js) from by rw [hjx, hjs]] at HST
            clear hjx hjs
            have HEC := hid (show ecl (mrg A B i) ++ [.int .u64 jx, .int .u8 js] = ecl (mrg A B (i + 1)) from by rw [HST.out, ecl_append]; rfl)
            generalize (gd A i).1 = x1 at *
            generalize (gd A i).2 = s1 at *
            generalize (gd B i).1 = x2 at *
            generalize (gd B i).2 = s2 at *
            have hsz := HB.out.size
            obtain ⟨i0, hi0, hz0, hz1, hz2⟩ := info_parts infoE
            go_upto_region 9 with fail
            go_region_law (first
              | (go_simp; go_at_call 59; refine (HJ.out _).mono ?_; rintro e wJ ⟨rfl, hbJ⟩
                 have hbJ : Below wr.heap.size wr wJ := by first | exact hbJ | exact undrew hbJ
                 have HBJ := hid (HB.out.trans (hbJ.mono hsz))
                 have HOJ := hid (owns_below HO.out hbJ)
                 have hJs := HBJ.out.size)
              | (refine step_append_lies _ (by rfl) (.tmp 28) (.tmp 38) _ (by rfl) w.heap.size 36 i0 (.agg #[.int .u64 0, .int .u8 0]) 2 16 Try.underlying22 hi0 hz0 hz1 hz2 (by rfl) (by decide) _ i (ecl (mrg A B i)) (by rfl) (by exact HOJ.out.alloc _) ⟨wJ.heap.size, 0, none⟩ 1 1 [.int .u64 jx, .int .u8 js] (by rfl) (by rfl) (World.news_of_block (by exact heap_new wJ _)) (ent_one _ _) (by omega) (by unfold maxLen; omega) (by omega) (by simp; omega) _ (by rfl) ?_
                 intro g cap wA hownA hgA hatA hltA))
            all_goals
              rw [HEC.out] at hownA
              have HOA := hid hownA
              have HBA := hid ((HBJ.out.alloc hJs (.cells #[.int .u64 jx, .int .u8 js] 36)).grown (by first | exact hgA | exact ⟨hgA.os, hgA.tape, hgA.output, hgA.size, hgA.block⟩) (by simp; omega) (fun g hg => (HOJ.out.lt g hg).1))
              clear hownA hgA hatA hltA hbJ
              go_wp2_with fail
              exact ⟨⟨i + 1, by omega, by go_num, HOA, HBA⟩, by simp [intOf]; omega⟩
          · obtain rfl : i = n1 := by omega
            have HO2 := hid HO.out
            go_wp2
            go_ret2
            rw [HE.out.1, HE.out.2, mrg_length]
            exact ⟨_, rfl, HO2.out, HB.out⟩
      · have hl : A.length ≠ B.length := by have := HN1.out; have := HN2.out; omega
        have HE := hid (show mErr A B = 10 ∧ mTab A B = [] by simp [mErr, mTab, hv1, hv2, hl])
        have e0 : ((n1 : Int) != n2) = true := by simp; omega
        clear hv1 hv2 hl hne
        go_enter Try.func20, Try.ntmps20
        go_wp2_with fail
        refine HV1.out.mono ?_
        rintro e w1 ⟨rfl, hb1⟩
        have HB1 := hid hb1
        clear hb1 HV1
        go_wp2_with fail
        refine (HV2.out _ (HT2.out.below HB1.out)).mono ?_
        rintro e w2 ⟨rfl, hb2⟩
        have HB2 := hid (HB1.out.trans (hb2.mono HB1.out.size))
        clear hb2
        go_wp2
        go_ret2
        rw [HE.out.1, HE.out.2]
        exact ⟨_, rfl, owns_nil _ _ _ _, HB2.out⟩

set_option maxRecDepth 100000 in
set_option maxHeartbeats 1000000 in
theorem RLive_any (a : Option Addr) (n c : Nat) (L : List Ent) (w : World) (ht : Tb w (.slice a n c) L) (hn : n ≤ 100000) :
    Calls Try.prog 26 #[.slice a n c] w fun e w' => ∃ v, e = .returned v ∧ w'.ownsRow w.heap.size 3 1 v (liveL L n).length (ints (liveL L n)) ∧ Below w.heap.size w w' := by
  obtain ⟨i0, hi0, hz0, hz1, hz2⟩ := info_parts infoI
  have HN := hid ht.len
  have HT := hid ht
  have HO0 := hid (show (w.alloc (.cells #[] 3)).ownsRow w.heap.size 3 1 (.slice (some ⟨w.heap.size, 0, none⟩) 0 0) (liveL L 0).length (ints (liveL L 0)) from owns_empty w _ 1)
  have HB0 := hid ((Below.refl w.heap.size w).alloc (Nat.le_refl _) (.cells #[] 3))
  clear ht
  go_enter Try.func26, Try.ntmps26
  go_wp2
  go_loopw [3, 4] (fun v iv wr => ∃ i : Nat, i ≤ n ∧ iv = .int .i64 i ∧ Hid (wr.ownsRow w.heap.size 3 1 v (liveL L i).length (ints (liveL L i))) ∧ Hid (Below w.heap.size w wr)) (fun _ iv _ => n - (intOf iv).toNat)
  case atStart => exact ⟨0, by omega, rfl, HO0, HB0⟩
  case round =>
    clear HO0 HB0
    obtain ⟨i, hi, rfl, HO, HB⟩ := hrel
    by_cases hlt : i < n
    · obtain ⟨b, o, rfl, hbl⟩ := HT.out.addr (by omega)
      obtain ⟨q0, q1⟩ := (HT.out.below HB.out).cells i hlt
      have hsz := HB.out.size
      have hln := liveL_len L i
      by_cases hl : liveE (gd L i) = true
      · have HL := hid (liveL_yes hl)
        have hz : ((gd L i).2 == 1 || (gd L i).2 == 2) = true := hl
        generalize (gd L i).2 = st at *
        generalize (gd L i).1 = ic at *
        obtain ⟨k, hk⟩ : ∃ k, k = (liveL L i).length := ⟨_, rfl⟩
        rw [← hk] at HO hln
        have HLT := hid fun g hg => (HO.out.lt g hg).1
        clear hl
        have HK := hid hk
        clear hk
        have hst : st = 1 ∨ st = 2 := by simpa using hz
        clear hz
        have E1 := hid (ints_snoc (liveL L i) i)
        rcases hst with rfl | rfl
        all_goals
          go_wp2_with (refine wpList_append_lies _ rfl (.tmp 26) (.tmp 28) _ rfl w.heap.size 3 i0 (.int .i64 0) 1 8 Try.underlying31 hi0 hz0 hz1 hz2 rfl (by decide) _ k (ints (liveL L i)) rfl (HO.out.alloc _) ⟨wr.heap.size, 0, none⟩ 1 1 [.int .i64 (i : Int)] rfl rfl ?hnews ?hone (by omega) (by unfold maxLen; omega) (by omega) (by simp; omega) _ rfl ?_)
          case hnews => exact World.news_of_block (heap_new_at _ _ (by simp))
          case hone => exact one_int _
          intro g2 cap2 w2 hown2 hg2 hat hlt3
          rw [E1.out, ← HL.out] at hown2
          have hb2 : Below w.heap.size w w2 := (HB.out.alloc hsz _).grown hg2 (by simp; omega) HLT.out
          have e2 : k + 1 = (liveL L (i + 1)).length := by rw [HL.out, HK.out]; simp
          clear hat hlt3 hg2
          have HO2 := hid hown2
          have HB2 := hid hb2
          have HE2 := hid e2
          clear hown2 hb2 e2
          go_wp2
          exact ⟨⟨i + 1, by omega, by go_num, hid (by rw [← HE2.out]; exact HO2.out), HB2⟩, by simp [intOf]; omega⟩
      · have hl : liveE (gd L i) = false := by simpa using hl
        have HL := hid (liveL_no hl)
        have hz : ((gd L i).2 == 1 || (gd L i).2 == 2) = false := hl
        generalize (gd L i).2 = st at *
        generalize (gd L i).1 = ic at *
        have h1 : (st == 1) = false := by simp at hz ⊢; exact hz.1
        have h2 : (st == 2) = false := by simp at hz ⊢; exact hz.2
        clear hl hz
        go_wp2
        exact ⟨⟨i + 1, by omega, by go_num, hid (by rw [HL.out]; exact HO.out), HB⟩, by simp [intOf]; omega⟩
    · obtain rfl : i = n := by omega
      go_wp2
      go_ret
      exact ⟨_, rfl, HO.out, HB.out⟩

/-- the slice value v reads as the numbers l -/
def Il (w : World) (a : Option Addr) (l : List Nat) : Prop := l ≠ [] → ∃ b, a = some ⟨b, 0, none⟩ ∧ b < w.heap.size ∧ ∀ j, j < l.length → w.cell? ⟨b, j, none⟩ = some (.int .i64 (l.getD j 0 : Nat))
theorem il_of_owns {w : World} {base : Nat} {v : Value} {l : List Nat} (h : w.ownsRow base 3 1 v l.length (ints l)) : ∃ a c, v = .slice a l.length c ∧ Il w a l := by
  rcases h.2 with ⟨rfl, h0⟩ | ⟨g, cap, cur, rfl, h4, h5, h6, h7, h8, h9⟩
  · exact ⟨none, 0, by rw [h0], fun hl => absurd (List.eq_nil_of_length_eq_zero h0) hl⟩
  · refine ⟨_, cap, rfl, fun _ => ⟨g, rfl, lt_of_heap h5, fun j hj => ?_⟩⟩
    have e : (cur.toList.take (l.length * 1))[j]? = (ints l)[j]? := by rw [h9]
    rw [List.getElem?_take_of_lt (by omega)] at e
    rw [cell_of_heap h5, ← Array.getElem?_toList, e]
    simp [ints, hj]
theorem Il.below {w w' : World} {a : Option Addr} {l : List Nat} (h : Il w a l) (k : Below w.heap.size w w') : Il w' a l := fun hl => by
  obtain ⟨b, ha, hb, hc⟩ := h hl
  exact ⟨b, ha, Nat.lt_of_lt_of_le hb k.size, fun j hj => (k.cell (p := ⟨b, j, none⟩) hb).trans (hc j hj)⟩
set_option maxRecDepth 100000 in
set_option maxHeartbeats 1000000 in
theorem sameInts_same (a1 a2 : Option Addr) (c1 c2 : Nat) (l : List Nat) (w : World) (h1 : Il w a1 l) (h2 : Il w a2 l) (hk : l.length ≤ 100000) :
    Calls Try.prog 24 #[.slice a1 l.length c1, .slice a2 l.length c2] w fun e w' => e = .returned (.bool true) ∧ ∃ q, w' = w.drewN q := by
  have H1 := hid h1
  have H2 := hid h2
  obtain ⟨k, hkk⟩ : ∃ k, k = l.length := ⟨_, rfl⟩
  have HK := hid hkk
  rw [← hkk] at hk ⊢
  clear h1 h2 hkk
  go_enter Try.func24, Try.ntmps24
  go_wp2
  go_loopw [5] (fun iv wr => ∃ i : Nat, i ≤ k ∧ iv = .int .i64 i ∧ Hid (∃ q, wr = w.drewN q)) (fun iv _ => k - (intOf iv).toNat)
  case atStart => exact ⟨0, by omega, rfl, hid ⟨0, rfl⟩⟩
  case round =>
    obtain ⟨i, hi, rfl, HQ⟩ := hrel
    by_cases hlt : i < k
    · have hne : l ≠ [] := by rintro rfl; have := HK.out; simp at this; omega
      obtain ⟨b1, rfl, _, hc1⟩ := H1.out hne
      obtain ⟨b2, rfl, _, hc2⟩ := H2.out hne
      have q0 : wr.cell? ⟨b1, i, none⟩ = some (.int .i64 (l.getD i 0 : Nat)) := by
        obtain ⟨q, rfl⟩ := HQ.out
        exact hc1 i (by rw [← HK.out]; exact hlt)
      have r0 : wr.cell? ⟨b2, i, none⟩ = some (.int .i64 (l.getD i 0 : Nat)) := by
        obtain ⟨q, rfl⟩ := HQ.out
        exact hc2 i (by rw [← HK.out]; exact hlt)
      generalize l.getD i 0 = x at *
      clear hc1 hc2 hne
      have hx : ((x : Int) != (x : Int)) = false := by simp
      go_wp2_with fail
      go_quiet (fail)
      have HQ2 := hid (show ∃ q, wr.drewN nq = w.drewN q from by
        obtain ⟨q, h⟩ := HQ.out
        exact ⟨q + nq, by rw [h, World.drewN_drewN]⟩)
      go_wp2
      exact ⟨⟨i + 1, by omega, by go_num, HQ2⟩, by simp [intOf]; omega⟩
    · obtain rfl : i = k := by omega
      go_wp2
      go_ret
      exact ⟨rfl, HQ.out⟩
end Go.Proofs.Ytbdefmjjhkonjaa
