/-
  The walk of the law about interpolation.
-/
import Derived.Test.YtfleplbdcpdphaaLawIn
import Derived.Test.YtfleplbdcpdphaaThrO
import Derived.Test.YtfleplbdcpdphaaStr
import Derived.Test.YtfleplbdcpdphaaLawS
import Derived.Test.YtfleplbdcpdphaaField
import Derived.Test.YtfleplbdcpdphaaKnown
namespace Go.Proofs.Ytfleplbdcpdphaa
open Go Go.RowKit
set_option linter.unusedVariables false

theorem newField_e2 (w : World) : Calls Try.prog 30 #[] w fun e w' => ∃ fb, w.heap.size ≤ fb ∧ e = .returned (.pointer (some ⟨fb, 0, none⟩)) ∧ Fresh w' fb ∧ Below w.heap.size w w' :=
  (newField_any w).mono fun e w' h => ⟨_, Nat.le_refl _, h.1, h.2.1, h.2.2⟩
/-- a result of bytes, and an error -/
def BRes (m : Nat) (x : Int) (L : List Nat) (e : Ending) (w' : World) : Prop := ∃ ra rc, e = .returned (.tuple #[.slice ra m rc, .int .i64 x]) ∧ Bs w' (.slice ra m rc) L
theorem held_pt {fb : Nat} {w : World} {a : Option Addr} {n c : Nat} {X Y : List Nat} (h : Pt w (.slice a n c) X Y) (hne : ∀ ad, a = some ad → ad.block ≠ fb) : HeldPt fb w (.slice a n c) X Y := by
  intro w' k
  obtain ⟨a1, c1, h1, h2, h3, h4, h5⟩ := h
  refine ⟨a1, c1, h1, h2, h3, h4, fun hl => ?_⟩
  obtain ⟨b, o, ha, hc⟩ := h5 hl
  simp only [Value.slice.injEq] at h1
  have hb : b ≠ fb := hne ⟨b, o, none⟩ (h1.1.trans ha)
  refine ⟨b, o, ha, fun i hi => ?_⟩
  have := hc i hi
  have e := k.block b (World.block_lt_of_cell? _ _ this.1) hb
  rw [World.cell?_of_block (a := ⟨b, o + i * 2, none⟩) e, World.cell?_of_block (a := ⟨b, o + i * 2 + 1, none⟩) e]
  exact this

set_option maxRecDepth 100000 in
set_option maxHeartbeats 1000000 in
theorem interp_in (W : World) (a : Option Addr) (n c : Nat) (X Y : List Nat) (hp : Pt W (.slice a n c) X Y) (hnil : a = none → c = 0) (hn : n ≤ 300) (x : Int) (m : Nat) (L : List Nat)
    (hP : ∀ fb a' c' w, Fld w fb → HeldPt fb w (.slice a' n c') X Y → Calls Try.prog 54 #[.pointer (some ⟨fb, 0, none⟩), .slice a' n c'] w fun e w' => BRes m x L e w' ∧ Kept fb w w')
    (hQ : ∀ w, Pt w (.slice a n c) X Y → Calls Try.prog 55 #[.slice a n c] w fun e w' => BRes m x L e w' ∧ Below w.heap.size w w') :
    Calls Try.prog 18 #[.slice a n c] W fun e w' => e = .returned (.bool true) ∧ Below W.heap.size W w' := by
  have b0 : decide ((300 : Int) < (n : Int)) = false := by simp; omega
  have HP0 := hid hp
  have HNIL := hid hnil
  have HP := hid hP
  have HQ := hid hQ
  clear hp hnil hP hQ
  go_enter Try.func18, Try.ntmps18
  go_wp2_with fail
  refine (newField_e2 _).mono ?_
  rintro e w1 ⟨fb, hfb, rfl, hfr, hb1⟩
  have HW1 := hid hb1
  have HFR := hid hfr
  have hfl := lt_of_heap hfr
  have hp1 := (HP0.out.below HW1.out).below ((Below.refl w1.heap.size w1).alloc (Nat.le_refl _) (Obj.cells #[] 72))
  have HP1 := hid hp1
  clear hb1 hfr hp1 b0
  go_wp2_with (refine wpList_cloneP rfl (.tmp 13) (.tmp 14) rfl w1.heap.size rfl (heap_new w1 _) a n c X Y rfl HP1.out HNIL.out (by omega) ?_)
  intro a' c' w2 hp2 hnc' hlow hnil' hk2
  have hb12 : Below w1.heap.size w1 w2 := ((Below.refl _ _).alloc (Nat.le_refl _) _).trans (hk2.below (by simp) (Nat.le_refl _))
  have hF2 : Fld w2 fb := .inl ((hb12.block _ hfl).trans HFR.out)
  have hH2 := held_pt (fb := fb) hp2 (fun ad h => by have := hlow ad h; omega)
  have HF2 := hid hF2
  have HH2 := hid hH2
  have HW2 := hid (known_end HW1.out hb12)
  clear hp2 hlow hnil' hk2 hb12 hF2 hH2
  go_wp2_with fail
  refine (HP.out fb a' c' w2 HF2.out HH2.out).mono ?_
  rintro e w3 ⟨⟨ra, rc, rfl, hR3⟩, hk3⟩
  have hW3 := HW2.out.trans (hk3.below HW2.out.size hfb)
  have HW3 := hid hW3
  have HR3 := hid hR3
  clear hR3 hk3 hW3
  go_wp2_with fail
  refine (HQ.out w3 (HP0.out.below HW3.out)).mono ?_
  rintro e w4 ⟨⟨rb, rd, rfl, hR4⟩, hb4⟩
  have HW4 := hid (known_end HW3.out hb4)
  have cv1 := conv_bs (HR3.out.below hb4)
  have cv2 := conv_bs hR4
  clear hR4 hb4
  go_wp2_with fail
  refine (known_any _).mono ?_
  rintro e w5 ⟨rfl, hb5⟩
  go_wp2
  go_ret
  exact ⟨rfl, known_end HW4.out hb5⟩

theorem ip_mem (X : List Nat) (y : Nat → Nat) (hy : ∀ i, y i < 256) (n : Nat) : ∀ v ∈ (List.range n).map (ipC X y), v < 256 := by
  intro v hv
  obtain ⟨j, _, rfl⟩ := List.mem_map.1 hv
  exact ipC_lt X y hy j
set_option maxRecDepth 100000 in
theorem interp_walk (W : World) (v : Value) (hv : PtW W v) :
    Calls Try.prog 18 #[v] W fun e w' => e = .returned (.bool true) ∧ Below W.heap.size W w' := by
  obtain ⟨a, n, c, X, Y, rfl, hp, hc, hnil⟩ := hv
  by_cases hn : n ≤ 300
  · have hXn := hp.len.1
    by_cases he : ptsE X = 0
    · have hsz : (1 ≤ n ∧ n ≤ 256) ∧ X.Nodup := by
        unfold ptsE at he
        split at he
        · cases he
        · split at he
          · rename_i h1 h2
            exact ⟨by omega, h2⟩
          · cases he
      refine interp_in W a n c X Y hp hnil hn 0 n ((List.range n).map (ipC X fun i => Y.getD i 0)) (fun fb a' c' w hF hH => ?_) (fun w hw => ?_)
      · refine (Interpolate_ok fb a' n c' X Y w hF hH he).mono ?_
        rintro e w' ⟨cb, _, rfl, hO, _, hk⟩
        have h1 := hO.bs (ip_mem X _ hp.ltY n) n
        rw [List.length_map, List.length_range] at h1
        exact ⟨⟨_, _, rfl, h1⟩, hk⟩
      · refine (Through_ok a n c X Y w hw hsz.1.1 hsz.1.2 hsz.2).mono ?_
        rintro e w' ⟨cb, _, rfl, hO, hb⟩
        have h1 := hO.bs (ip_mem X _ hp.ltY n) n
        rw [List.length_map, List.length_range] at h1
        exact ⟨⟨_, _, rfl, h1⟩, hb⟩
    · refine interp_in W a n c X Y hp hnil hn (ptsE X) 0 [] (fun fb a' c' w hF hH => ?_) (fun w hw => ?_)
      · refine (Interpolate_bad fb a' n c' X Y w (hH w (Kept.refl _ _)) (by omega) he).mono ?_
        rintro e w' ⟨rfl, hb⟩
        exact ⟨⟨_, _, rfl, bs_nil _⟩, Kept.of_below hb⟩
      · by_cases h1 : n = 0 ∨ 256 < n
        · have h2 : ptsE X = 2 := by unfold ptsE; rw [if_pos (by omega)]
          rw [h2]
          refine (Through_two a n c w h1).mono ?_
          rintro e w' ⟨rfl, rfl⟩
          exact ⟨⟨_, _, rfl, bs_nil _⟩, Below.refl _ _⟩
        · have h3 : ¬ X.Nodup := fun h => he (by unfold ptsE; rw [if_neg (by omega), if_pos h])
          have h2 : ptsE X = 7 := by unfold ptsE; rw [if_neg (by omega), if_neg h3]
          rw [h2]
          refine (Through_dup a n c X Y w hw (by omega) (by omega) h3).mono ?_
          rintro e w' ⟨rfl, hb⟩
          exact ⟨⟨_, _, rfl, bs_nil _⟩, hb⟩
  · have b0 : decide ((300 : Int) < (n : Int)) = true := by simp; omega
    clear hp
    go_enter Try.func18, Try.ntmps18
    go_wp2_with fail
    refine (known_any _).mono ?_
    rintro e w1 ⟨rfl, hb⟩
    go_wp2
    go_ret
    exact ⟨rfl, hb⟩
end Go.Proofs.Ytfleplbdcpdphaa
