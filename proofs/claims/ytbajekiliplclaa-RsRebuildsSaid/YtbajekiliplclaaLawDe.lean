/-
  The walk of the law about decoding.
-/
import Derived.Test.YtbajekiliplclaaDec
import Derived.Test.YtbajekiliplclaaJoin
import Derived.Test.YtbajekiliplclaaMine
import Derived.Test.YtbajekiliplclaaSame
import Derived.Test.YtbajekiliplclaaKnown
import Derived.Test.YtbajekiliplclaaOpen
import Derived.Test.YtbajekiliplclaaLawS
import Derived.Test.YtbajekiliplclaaLawM
namespace Go.Proofs.Ytbajekiliplclaa
open Go Go.RowKit
set_option linter.unusedVariables false

theorem MineI.reads {w wr : World} {v : Value} {n : Nat} {ps qs : List (Int × Sl)} {D : Nat → List Nat} (h : MineI w wr v n ps qs D) (hD : ∀ i, i < n → ∀ x ∈ D i, x < 256) :
    ∃ a' c', v = .slice a' n c' ∧ n ≤ c' ∧ Ps wr (.slice a' n c') qs ∧ ∀ i, (h : i < qs.length) → Bs wr (.slice qs[i].2.1 qs[i].2.2.1 qs[i].2.2.2) (D i) := by
  have hlen := h.len
  have hdat : ∀ i, (h : i < qs.length) → Bs wr (.slice qs[i].2.1 qs[i].2.2.1 qs[i].2.2.2) (D i) := fun i hi => by
    obtain ⟨a, c, e, _, _, hb, _⟩ := bs_of_owns (h.data i hi) (hD i (by omega))
    exact hb
  have ho := h.own
  rcases ho.2 with ⟨rfl, h0⟩ | ⟨g, cap, cur, rfl, h3, h4, h5, _⟩
  · subst h0
    have hq : qs = [] := List.eq_nil_of_length_eq_zero hlen
    subst hq
    exact ⟨none, 0, rfl, Nat.le_refl _, ⟨none, 0, rfl, fun e => absurd rfl e⟩, hdat⟩
  · have h6 := ps_of_owns (c := cap) ho (show n ≤ qs.length by omega)
    rw [List.take_of_length_le (by omega)] at h6
    exact ⟨_, cap, rfl, h5, h6, hdat⟩
theorem MineI.fns {w wr : World} {v : Value} {n : Nat} {ps qs : List (Int × Sl)} {D : Nat → List Nat} (h : MineI w wr v n ps qs D) (hn : n = ps.length) : pidx qs = pidx ps ∧ plen' qs = plen' ps := by
  have hl := h.len
  constructor <;> funext i
  · by_cases hi : i < n
    · exact (h.same i hi).1
    · unfold pidx
      rw [List.getD_eq_getElem?_getD, List.getD_eq_getElem?_getD, List.getElem?_eq_none (by omega), List.getElem?_eq_none (by omega)]
  · by_cases hi : i < n
    · exact (h.same i hi).2
    · unfold plen'
      rw [List.getD_eq_getElem?_getD, List.getD_eq_getElem?_getD, List.getElem?_eq_none (by omega), List.getElem?_eq_none (by omega)]
/-- what stood before the field may be read whatever becomes of the field -/
theorem held_of {fb : Nat} {w0 w : World} {v : Value} {ps : List (Int × Sl)} {D : Nat → List Nat} (h0 : Ps w0 v ps) (hD : ∀ i, (h : i < ps.length) → Bs w0 (.slice ps[i].2.1 ps[i].2.2.1 ps[i].2.2.2) (D i)) (hb : Below w0.heap.size w0 w) (hfb : w0.heap.size ≤ fb) : Held fb w v ps D :=
  fun w' k => ⟨h0.below (hb.trans (k.below hb.size hfb)), fun i h => (hD i h).below (hb.trans (k.below hb.size hfb))⟩

/-- bytes and an error -/
def BytesRes (m : Nat) (x : Int) (L : List Nat) (e : Ending) (w' : World) : Prop := ∃ ra rc, e = .returned (.tuple #[.slice ra m rc, .int .i64 x]) ∧ Bs w' (.slice ra m rc) L

theorem case_cells {w : World} {b : Nat} {cs : Array Value} {t : TypeId} (h : w.heap[b]? = some (.cells cs t (0, 0))) : w.cell? ⟨b, 0, none⟩ = cs[0]? ∧ w.cell? ⟨b, 1, none⟩ = cs[1]? ∧ w.cell? ⟨b, 2, none⟩ = cs[2]? := ⟨cell_of_heap h 0, cell_of_heap h 1, cell_of_heap h 2⟩

set_option maxRecDepth 100000 in
set_option maxHeartbeats 4000000 in
theorem decodes_in (W : World) (K T S I : Int) (da oa ia pa : Option Addr) (dl dc ol oc il ic pl pc : Nat) (Wh At : Int) (M : Nat) (ps : List (Int × Sl)) (D : Nat → List Nat) (hp : Ps W (.slice pa pl pc) ps) (hD : ∀ i, (h : i < ps.length) → Bs W (.slice ps[i].2.1 ps[i].2.2.1 ps[i].2.2.2) (D i) ∧ (ps[i].2.1 = none → ps[i].2.2.2 = 0))
    (m : Nat) (x : Int) (L : List Nat)
    (hg : K ≤ 60 ∨ ∀ w, Calls Try.prog 29 #[.int .i64 K, .int .i64 T] w fun e w' => e = .returned (.bool false) ∧ w = w')
    (hP : pl ≤ 60 → ∀ fb w a' c' qs, pidx qs = pidx ps → plen' qs = plen' ps → pl ≤ c' → Fld w fb → Held fb w (.slice a' pl c') qs D → Calls Try.prog 35 #[.pointer (some ⟨fb, 0, none⟩), .int .i64 K, .int .i64 T, .int .i64 S, .slice a' pl c'] w fun e w' => BytesRes m x L e w' ∧ Kept fb w w')
    (hQ : pl ≤ 60 → ∀ w, Below W.heap.size W w → Calls Try.prog 36 #[.int .i64 K, .int .i64 T, .int .i64 S, .slice pa pl pc] w fun e w' => BytesRes m x L e w' ∧ Below w.heap.size w w') :
    Calls Try.prog 6 #[.agg #[.int .i64 K, .int .i64 T, .int .i64 S, .int .i64 I, .slice da dl dc, .slice oa ol oc, .slice ia il ic, .int .i64 Wh, .int .i64 At, .int .u8 M, .slice pa pl pc]] W fun e w' => e = .returned (.bool true) ∧ Below W.heap.size W w' := by
  have hnot : ∀ (x : Bool) (w : World), (Op.unary .not (.bool x)).run Try.prog w = .ok (.bool (!x)) w := fun _ _ => rfl
  obtain ⟨w1, hw1⟩ : ∃ w1, w1 = W.alloc (Obj.cells #[.int .i64 K, .int .i64 T, .int .i64 S, .int .i64 I, .slice da dl dc, .slice oa ol oc, .slice ia il ic, .int .i64 Wh, .int .i64 At, .int .u8 M, .slice pa pl pc] 39) := ⟨_, rfl⟩
  have hbel : Below W.heap.size W w1 := by rw [hw1]; exact (Below.refl _ _).alloc (Nat.le_refl _) _
  have g0 : w1.heap[W.heap.size]? = some (Obj.cells #[.int .i64 K, .int .i64 T, .int .i64 S, .int .i64 I, .slice da dl dc, .slice oa ol oc, .slice ia il ic, .int .i64 Wh, .int .i64 At, .int .u8 M, .slice pa pl pc] 39) := by rw [hw1]; exact heap_new _ _
  have x10 := cell_of_heap g0 10
  have HPS := hid hp
  have HD := hid hD
  have HP := hid hP
  have HQ := hid hQ
  have HG := hid hg
  have HBEL := hid hbel
  have G0 := hid g0
  have hnp : pl = ps.length := by obtain ⟨_, _, h, _⟩ := hp; simp at h; exact h.2.1
  have HN := hid hnp
  clear hp hD hP hQ hg hbel g0 hnp
  go_enter Try.func6, Try.ntmps6
  go_wp2_with fail
  rw [← hw1]
  clear hw1
  refine (mine_any pa pl pc ps D _ (HPS.out.below HBEL.out) (fun i h => ⟨(HD.out i h).1.below HBEL.out, (HD.out i h).2⟩)).mono ?_
  rintro e w2 (⟨v, qs, rfl, hmi, _, hn⟩ | ⟨rfl, hb2⟩)
  · obtain ⟨a', c', rfl, hcc, hqs, hqd⟩ := hmi.reads (fun i hi y hy => by
      have h5 := (HD.out i (by rw [← HN.out]; exact hi)).1
      obtain ⟨_, _, _, h6, _⟩ := h5
      exact h6 y hy)
    obtain ⟨f1, f2⟩ := hmi.fns HN.out
    have HF1 := hid f1
    have HF2 := hid f2
    have hb2 := hmi.below
    have hbw : Below W.heap.size W w2 := known_end HBEL.out hb2
    have HB2 := hid hbw
    have HQS := hid hqs
    have HQD := hid hqd
    have G2 := hid ((hb2.block _ (lt_of_heap G0.out)).trans G0.out)
    have hW2 := lt_of_heap G2.out
    clear x10 hmi hqs hqd f1 f2 hb2 hbw
    have x0 := cell_of_heap G2.out 0
    have x1 := cell_of_heap G2.out 1
    have x2 := cell_of_heap G2.out 2
    by_cases hk : K ≤ 60
    · have b1 : decide ((60 : Int) < K) = false := by simp; omega
      go_wp2
      go_region_held3 (fun w' => w'.cell? ⟨W.heap.size, 0, none⟩ = some (.int .i64 K) ∧ w'.cell? ⟨W.heap.size, 1, none⟩ = some (.int .i64 T) ∧ w'.cell? ⟨W.heap.size, 2, none⟩ = some (.int .i64 S))
        (first | exact case_cells G4.out | exact case_cells G3.out | exact case_cells G2.out)
        (first
          | (go_at_call 30
             refine (newField_ex _).mono ?_
             rintro e w3 ⟨fb, hfb, rfl, hfr, hb3⟩
             have hb3 : Below w2.heap.size w2 w3 := by first | exact chainA hb3 | exact hb3
             have hfb : w2.heap.size ≤ fb := by first | exact hfb | (simp at hfb; omega)
             have HF3 := hid (show Fld w3 fb from .inl hfr)
             have HB3 := hid hb3
             have G3 := hid ((hb3.block _ hW2).trans G2.out))
          | (go_at_call 35
             refine (HP.out hn fb _ a' c' qs HF1.out HF2.out hcc HF3.out (held_of HQS.out HQD.out HB3.out hfb)).mono ?_
             rintro e w4 ⟨⟨ra, rc, rfl, hR4⟩, hk4⟩
             have hb4 : Below w2.heap.size w2 w4 := HB3.out.trans (hk4.below HB3.out.size hfb)
             have G4 := hid ((hb4.block _ hW2).trans G2.out)
             have HR4 := hid hR4
             have HB4 := hid hb4))
      all_goals
        have y0 := cell_of_heap G4.out 0
        have y1 := cell_of_heap G4.out 1
        have y2 := cell_of_heap G4.out 2
        have y10 := cell_of_heap G4.out 10
        go_wp2_with fail
        refine (HQ.out hn _ (known_end HB2.out HB4.out)).mono ?_
        rintro e w5 ⟨⟨ja, jc, rfl, hR5⟩, hb5⟩
        have G5 := hid ((hb5.block _ (lt_of_heap G4.out)).trans G4.out)
        have HB5 := hid (known_end HB4.out hb5)
        have cv1 := conv_bs (HR4.out.below hb5)
        have cv2 := conv_bs hR5
        clear y0 y1 y2 y10 hb5 hR5
        have z10 := cell_of_heap G5.out 10
        go_wp2_with fail
        refine (same_yes a' pa pl c' pc qs ps D _ (HQS.out.below HB5.out) (HPS.out.below (known_end HB2.out HB5.out)) (by omega) (fun i h h' => by rw [pidx_at, pidx_at, HF1.out]) (fun i h => (HQD.out i h).below HB5.out) (fun i h => (HD.out i h).1.below (known_end HB2.out HB5.out))).mono ?_
        rintro e w6 ⟨rfl, hb6⟩
        have HB6 := hid (known_end (known_end HB2.out HB5.out) hb6)
        clear z10 cv1 cv2 hb6
        go_wp2_with fail
        refine (known_any _).mono ?_
        rintro e w7 ⟨rfl, hb7⟩
        go_wp2
        go_ret
        exact ⟨rfl, known_end HB6.out hb7⟩
    · have b1 : decide ((60 : Int) < K) = true := by simp; omega
      have HS := hid (HG.out.resolve_left hk)
      go_wp2_with fail
      refine (HS.out _).mono ?_
      rintro e w' ⟨rfl, rfl⟩
      go_wp2
      go_region_held3 (fun w' => w'.cell? ⟨W.heap.size, 0, none⟩ = some (.int .i64 K) ∧ w'.cell? ⟨W.heap.size, 1, none⟩ = some (.int .i64 T) ∧ w'.cell? ⟨W.heap.size, 2, none⟩ = some (.int .i64 S))
        (first | exact case_cells G4.out | exact case_cells G3.out | exact case_cells G2.out)
        (first
          | (go_at_call 30
             refine (newField_ex _).mono ?_
             rintro e w3 ⟨fb, hfb, rfl, hfr, hb3⟩
             have hb3 : Below w2.heap.size w2 w3 := by first | exact chainA hb3 | exact hb3
             have hfb : w2.heap.size ≤ fb := by first | exact hfb | (simp at hfb; omega)
             have HF3 := hid (show Fld w3 fb from .inl hfr)
             have HB3 := hid hb3
             have G3 := hid ((hb3.block _ hW2).trans G2.out))
          | (go_at_call 35
             refine (HP.out hn fb _ a' c' qs HF1.out HF2.out hcc HF3.out (held_of HQS.out HQD.out HB3.out hfb)).mono ?_
             rintro e w4 ⟨⟨ra, rc, rfl, hR4⟩, hk4⟩
             have hb4 : Below w2.heap.size w2 w4 := HB3.out.trans (hk4.below HB3.out.size hfb)
             have G4 := hid ((hb4.block _ hW2).trans G2.out)
             have HR4 := hid hR4
             have HB4 := hid hb4))
      all_goals
        have y0 := cell_of_heap G4.out 0
        have y1 := cell_of_heap G4.out 1
        have y2 := cell_of_heap G4.out 2
        have y10 := cell_of_heap G4.out 10
        go_wp2_with fail
        refine (HQ.out hn _ (known_end HB2.out HB4.out)).mono ?_
        rintro e w5 ⟨⟨ja, jc, rfl, hR5⟩, hb5⟩
        have G5 := hid ((hb5.block _ (lt_of_heap G4.out)).trans G4.out)
        have HB5 := hid (known_end HB4.out hb5)
        have cv1 := conv_bs (HR4.out.below hb5)
        have cv2 := conv_bs hR5
        clear y0 y1 y2 y10 hb5 hR5
        have z10 := cell_of_heap G5.out 10
        go_wp2_with fail
        refine (same_yes a' pa pl c' pc qs ps D _ (HQS.out.below HB5.out) (HPS.out.below (known_end HB2.out HB5.out)) (by omega) (fun i h h' => by rw [pidx_at, pidx_at, HF1.out]) (fun i h => (HQD.out i h).below HB5.out) (fun i h => (HD.out i h).1.below (known_end HB2.out HB5.out))).mono ?_
        rintro e w6 ⟨rfl, hb6⟩
        have HB6 := hid (known_end (known_end HB2.out HB5.out) hb6)
        clear z10 cv1 cv2 hb6
        go_wp2_with fail
        refine (known_any _).mono ?_
        rintro e w7 ⟨rfl, hb7⟩
        go_wp2
        go_ret
        exact ⟨rfl, known_end HB6.out hb7⟩
  · go_wp2_with fail
    refine (known_any _).mono ?_
    rintro e w4 ⟨rfl, hb4⟩
    go_wp2
    go_ret
    exact ⟨rfl, known_end (known_end HBEL.out hb2) hb4⟩

set_option maxRecDepth 100000 in
theorem decodes_known (W : World) (K T S I : Int) (da oa ia pa : Option Addr) (dl dc ol oc il ic pl pc : Nat) (Wh At : Int) (M : Nat) (ps : List (Int × Sl)) (D : Nat → List Nat) (hp : Ps W (.slice pa pl pc) ps) (hD : ∀ i, (h : i < ps.length) → Bs W (.slice ps[i].2.1 ps[i].2.2.1 ps[i].2.2.2) (D i) ∧ (ps[i].2.1 = none → ps[i].2.2.2 = 0))
    (hk : 60 < K) (hg : ∀ w, Calls Try.prog 29 #[.int .i64 K, .int .i64 T] w fun e w' => e = .returned (.bool true) ∧ w = w') :
    Calls Try.prog 6 #[.agg #[.int .i64 K, .int .i64 T, .int .i64 S, .int .i64 I, .slice da dl dc, .slice oa ol oc, .slice ia il ic, .int .i64 Wh, .int .i64 At, .int .u8 M, .slice pa pl pc]] W fun e w' => e = .returned (.bool true) ∧ Below W.heap.size W w' := by
  have hnot : ∀ (x : Bool) (w : World), (Op.unary .not (.bool x)).run Try.prog w = .ok (.bool (!x)) w := fun _ _ => rfl
  obtain ⟨w1, hw1⟩ : ∃ w1, w1 = W.alloc (Obj.cells #[.int .i64 K, .int .i64 T, .int .i64 S, .int .i64 I, .slice da dl dc, .slice oa ol oc, .slice ia il ic, .int .i64 Wh, .int .i64 At, .int .u8 M, .slice pa pl pc] 39) := ⟨_, rfl⟩
  have hbel : Below W.heap.size W w1 := by rw [hw1]; exact (Below.refl _ _).alloc (Nat.le_refl _) _
  have g0 : w1.heap[W.heap.size]? = some (Obj.cells #[.int .i64 K, .int .i64 T, .int .i64 S, .int .i64 I, .slice da dl dc, .slice oa ol oc, .slice ia il ic, .int .i64 Wh, .int .i64 At, .int .u8 M, .slice pa pl pc] 39) := by rw [hw1]; exact heap_new _ _
  have x10 := cell_of_heap g0 10
  have HPS := hid hp
  have HD := hid hD
  have HG := hid hg
  have HBEL := hid hbel
  have G0 := hid g0
  have b1 : decide ((60 : Int) < K) = true := by simpa using hk
  clear hp hD hg hbel g0
  go_enter Try.func6, Try.ntmps6
  go_wp2_with fail
  rw [← hw1]
  clear hw1
  refine (mine_any pa pl pc ps D _ (HPS.out.below HBEL.out) (fun i h => ⟨(HD.out i h).1.below HBEL.out, (HD.out i h).2⟩)).mono ?_
  rintro e w2 (⟨v, qs, rfl, hmi, _, hn⟩ | ⟨rfl, hb2⟩)
  · have hb2 := hmi.below
    have G2 := hid ((hb2.block _ (lt_of_heap G0.out)).trans G0.out)
    clear x10 hmi
    have x0 := cell_of_heap G2.out 0
    have x1 := cell_of_heap G2.out 1
    go_wp2_with fail
    refine (HG.out _).mono ?_
    rintro e w' ⟨rfl, rfl⟩
    go_wp2_with fail
    refine (known_any _).mono ?_
    rintro e w4 ⟨rfl, hb4⟩
    go_wp2
    go_ret
    exact ⟨rfl, known_end (known_end HBEL.out hb2) hb4⟩
  · go_wp2_with fail
    refine (known_any _).mono ?_
    rintro e w4 ⟨rfl, hb4⟩
    go_wp2
    go_ret
    exact ⟨rfl, known_end (known_end HBEL.out hb2) hb4⟩

theorem places_fn {qs ps : List (Int × Sl)} (h : pidx qs = pidx ps) (k : Nat) : places qs k = places ps k := by unfold places; rw [h]
theorem decodes_walk (W : World) (v0 : Value) (hv0 : CaseW W v0) :
    Calls Try.prog 6 #[v0] W fun e w' => e = .returned (.bool true) ∧ Below W.heap.size W w' := by
  obtain ⟨K, T, S, I, da, oa, ia, pa, dl, dc, ol, oc, il, ic, pl, pc, ld, lo, li, Wh, At, M, ps, D, hc⟩ := hv0
  obtain ⟨rfl, _, _, _, _, hp, hpc, _, hD0⟩ := hc
  have hD : ∀ i, (h : i < ps.length) → Bs W (.slice ps[i].2.1 ps[i].2.2.1 ps[i].2.2.2) (D i) ∧ (ps[i].2.1 = none → ps[i].2.2.2 = 0) := fun i h => ⟨(hD0 i h).2.1, (hD0 i h).2.2.2⟩
  by_cases hs : 1 ≤ K ∧ K ≤ T ∧ T ≤ 255
  · by_cases hk : 60 < K
    · exact decodes_known W K T S I da oa ia pa dl dc ol oc il ic pl pc Wh At M ps D hp hD hk (fun w => rsizes_yes K T hs.1 hs.2.1 hs.2.2 w)
    · by_cases hz : 0 ≤ S ∧ S ≤ 8192
      · obtain ⟨k, rfl⟩ : ∃ n : Nat, K = n := ⟨K.toNat, by omega⟩
        obtain ⟨t, rfl⟩ : ∃ n : Nat, T = n := ⟨T.toNat, by omega⟩
        obtain ⟨size, rfl⟩ : ∃ n : Nat, S = n := ⟨S.toNat, by omega⟩
        by_cases he : chkAll k t (pidx ps) (fun i => if ((plen' ps i : Nat) : Int) = (plen k size : Nat) then 0 else 10) pl = 0
        · refine decodes_in W k t size I da oa ia pa dl dc ol oc il ic pl pc Wh At M ps D hp hD size 0 (joinL ((List.range k).map D) (places ps k) (plen k size) k size) (.inl (by omega)) (fun hn fb w a' c' qs e1 e2 hcc hF hH => ?_) (fun hn w hb => ?_)
          · refine (Decode_ok fb k t size a' pl c' qs D (by omega) (by omega) (by omega) (by omega) (by omega) hcc w hF hH (by rw [e1, e2]; exact he)).mono ?_
            rintro e w' ⟨ob, _, rfl, ho, _, hk⟩
            refine ⟨⟨_, _, rfl, ?_⟩, hk⟩
            have h5 := ho.bs (fun y hy => by
              obtain ⟨z, _, rfl⟩ := List.mem_map.1 hy
              exact joinF_lt (fun i j => by
                by_cases h : i < k
                · have hi : i < qs.length := by have := hH.len; have := (fit_of he).few; omega
                  rw [range_map_getD _ _ _ h]
                  exact (hH.now.2 i hi).lt j
                · rw [List.getD_eq_getElem?_getD (l := List.map _ _), List.getElem?_eq_none (by simp; omega)]
                  show (0 : Nat) < 256
                  omega)) size
            rw [places_fn e1] at h5
            simpa [joinL] using h5
          · refine (Join_ok k t size pa pl pc ps D (by omega) (by omega) (by omega) (by omega) (by omega) hpc w (hp.below hb) (fun i h => (hD i h).1.below hb) he).mono ?_
            rintro e w' ⟨ja, jc, rfl, hbs, hb2⟩
            exact ⟨⟨_, _, rfl, hbs⟩, hb2⟩
        · refine decodes_in W k t size I da oa ia pa dl dc ol oc il ic pl pc Wh At M ps D hp hD 0 (chkAll k t (pidx ps) (fun i => if ((plen' ps i : Nat) : Int) = (plen k size : Nat) then 0 else 10) pl) [] (.inl (by omega)) (fun hn fb w a' c' qs e1 e2 hcc hF hH => ?_) (fun hn w hb => ?_)
          rotate_left 1
          · refine (Join_err k t size pa pl pc ps (by omega) (by omega) (by omega) (by omega) (by omega) w (hp.below hb) he).mono ?_
            rintro e w' ⟨rfl, hb2⟩
            exact ⟨⟨_, _, rfl, bs_nil _⟩, hb2⟩
          · have h5 := Decode_err fb k t size a' pl c' qs (by omega) (by omega) (by omega) (by omega) (by omega) w hH.now.1 (by rw [e1, e2]; exact he)
            rw [e1, e2] at h5
            refine h5.mono ?_
            rintro e w' ⟨rfl, hb2⟩
            exact ⟨⟨_, _, rfl, bs_nil _⟩, Kept.of_below hb2⟩
      · refine decodes_in W K T S I da oa ia pa dl dc ol oc il ic pl pc Wh At M ps D hp hD 0 2 [] (.inl (by omega)) (fun hn fb w a' c' qs e1 e2 hcc hF hH => ?_) (fun hn w hb => ?_)
        · refine (Decode_size fb K T S a' pl c' (fun h => hz ⟨h.2.2.2.1, h.2.2.2.2⟩) w).mono ?_
          rintro e w' ⟨rfl, hb2⟩
          exact ⟨⟨_, _, rfl, bs_nil _⟩, Kept.of_below hb2⟩
        · refine (Join_size K T S pa pl pc (fun h => hz ⟨h.2.2.2.1, h.2.2.2.2⟩) w).mono ?_
          rintro e w' ⟨rfl, rfl⟩
          exact ⟨⟨_, _, rfl, bs_nil _⟩, Below.refl _ _⟩
  · refine decodes_in W K T S I da oa ia pa dl dc ol oc il ic pl pc Wh At M ps D hp hD 0 2 [] (.inr fun w => rsizes_no K T hs w) (fun hn fb w a' c' qs e1 e2 hcc hF hH => ?_) (fun hn w hb => ?_)
    · refine (Decode_size fb K T S a' pl c' (fun h => hs ⟨h.1, h.2.1, h.2.2.1⟩) w).mono ?_
      rintro e w' ⟨rfl, hb2⟩
      exact ⟨⟨_, _, rfl, bs_nil _⟩, Kept.of_below hb2⟩
    · refine (Join_size K T S pa pl pc (fun h => hs ⟨h.1, h.2.1, h.2.2.1⟩) w).mono ?_
      rintro e w' ⟨rfl, rfl⟩
      exact ⟨⟨_, _, rfl, bs_nil _⟩, Below.refl _ _⟩
end Go.Proofs.Ytbajekiliplclaa
