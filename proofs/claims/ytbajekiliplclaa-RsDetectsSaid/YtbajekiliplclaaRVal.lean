/-
  The reference's value: the bytes of any piece, from the first k of a list of pieces.
-/
import Derived.Test.YtbajekiliplclaaDecM
import Derived.Test.YtbajekiliplclaaRSplit
import Derived.Deep.RegionHeld3
namespace Go.Proofs.Ytbajekiliplclaa
open Go Go.RowKit
set_option linter.unusedVariables false

theorem places_succ (ps : List (Int × Sl)) (i v : Nat) (h : pidx ps i = v) : places ps i ++ [v] = places ps (i + 1) := by
  unfold places
  rw [List.range_succ, List.map_append]
  simp [h]
theorem places_all {ps : List (Int × Sl)} {k : Nat} (h : ∀ i, i < k → 0 ≤ pidx ps i ∧ pidx ps i < 256) : ∀ i, i ≤ k → ∀ x ∈ places ps i, x < 256 := fun i hi x hx => by
  obtain ⟨j, hj, rfl⟩ := List.mem_map.1 hx
  have hj := List.mem_range.1 hj
  have := h j (by omega)
  omega

set_option maxRecDepth 100000 in
set_option maxHeartbeats 2000000 in
theorem value_any (k n b o c L x : Nat) (ps : List (Int × Sl)) (D : Nat → List Nat) (w : World) (h1 : 1 ≤ k) (h2 : k ≤ 255) (hkn : k ≤ n) (hnc : n ≤ c) (hx : x < 256) (hLb : L ≤ 1000000) (hp : Ps w (.slice (some ⟨b, o, none⟩) n c) ps)
    (hD : ∀ i, (h : i < ps.length) → Bs w (.slice ps[i].2.1 ps[i].2.2.1 ps[i].2.2.2) (D i)) (hL : ∀ i, i < k → plen' ps i = L) (hi : ∀ i, i < k → 0 ≤ pidx ps i ∧ pidx ps i < 256) (hnd : (places ps k).Nodup) :
    Calls Try.prog 85 #[.int .i64 k, .slice (some ⟨b, o, none⟩) n c, .int .u8 x] w fun e w' => ∃ oc, w.heap.size ≤ oc ∧ e = .returned (.slice (some ⟨oc, 0, none⟩) L L) ∧ Own w' oc (mixL ((List.range k).map D) (wts (places ps k) (scales (places ps k)) x) L k) ∧ Below w.heap.size w w' := by
  obtain ⟨i0, hi0, hz0, hz1, hz2⟩ := info_parts info5
  have hnp : n = ps.length := by obtain ⟨_, _, h, _⟩ := hp; simp at h; exact h.2.1
  have HN := hid hnp
  have HP := hid hp
  have HD := hid hD
  have HL := hid hL
  have HI := hid hi
  have HND := hid hnd
  clear hnp hp hD hL hi hnd
  have hown : (w.alloc (.cells #[] 5)).ownsRow w.heap.size 5 1 (.slice (some ⟨w.heap.size, 0, none⟩) 0 0) 0 (u8s (places ps 0)) := ⟨rfl, .inr ⟨w.heap.size, 0, #[], rfl, Nat.le_refl _, heap_new _ _, Nat.le_refl _, Nat.zero_le _, rfl, rfl⟩⟩
  have hbw : Below w.heap.size w (w.alloc (.cells #[] 5)) := (Below.refl _ _).alloc (Nat.le_refl _) _
  go_enter Try.func85, Try.ntmps85
  go_wp2
  go_loopw [7, 8] (fun v iv wr => ∃ i : Nat, i ≤ k ∧ iv = .int .i64 i ∧ wr.ownsRow w.heap.size 5 1 v i (u8s (places ps i)) ∧ Below w.heap.size w wr) (fun _ iv _ => k - (intOf iv).toNat)
  case atStart => exact ⟨0, by omega, rfl, hown, hbw⟩
  case round =>
    clear hown hbw
    obtain ⟨i, hi', rfl, hown, hbw⟩ := hrel
    by_cases hlt : i < k
    · have q0 := ((HP.out.below hbw).cells i (by rw [← HN.out]; omega)).1
      rw [pidx_at] at q0
      obtain ⟨v, hv⟩ : ∃ v : Nat, pidx ps i = v := ⟨(pidx ps i).toNat, by have := HI.out i hlt; omega⟩
      have hv2 : v < 256 := by have := HI.out i hlt; omega
      rw [hv] at q0
      have HV := hid hv
      clear hv
      have hown1 := hown.alloc (.cells #[.int .u8 (v : Int)] 5)
      have hsz := hbw.size
      go_wp2_with (refine wpList_append_own _ rfl (.tmp 15) (.tmp 22) _ rfl w.heap.size 5 i0 (.int .u8 0) 1 1 Try.underlying27 hi0 hz0 hz1 hz2 rfl (by decide) _ i (u8s (places ps i)) rfl hown1 ⟨wr.heap.size, 0, none⟩ 1 1 [.int .u8 (v : Int)] rfl rfl ?hnews ?hone (by unfold maxLen; omega) (by omega) (by simp; omega) ?_)
      case hnews => exact cell_of_new _ _ _
      case hone => intro u hu; simp only [List.mem_singleton] at hu; subst hu; rfl
      intro v' w2 hown2 hg2 _
      rw [u8s_snoc, places_succ ps i v HV.out] at hown2
      have hb2 : Below w.heap.size w w2 := (hbw.alloc hsz _).grown hg2 (by simp; omega) (fun g hg => (hown1.lt g hg).1)
      clear hown hown1 hbw hg2
      go_wp2
      go_roundw
      case rel => exact ⟨i + 1, by omega, by go_num, hown2, hb2⟩
      case measure => simp [intOf]; omega
    · obtain rfl : i = k := by omega
      obtain ⟨xa, xc, rfl, hm1, hm2, hbs, hm3⟩ := bs_of_owns hown (places_all HI.out i (Nat.le_refl _))
      clear hown hm1 hm2 hm3
      have q1 := ((HP.out.below hbw).cells 0 (by rw [← HN.out]; omega)).2
      rw [plen_at, HL.out 0 (by omega), Nat.zero_mul, Nat.add_zero] at q1
      have hb1 := World.block_lt_of_cell? _ _ q1
      have hic : i ≤ c := by omega
      generalize (ps[0]'_).2.1 = d0 at *
      generalize (ps[0]'_).2.2.2 = e0 at *
      have HBS := hid hbs
      have HBW := hid hbw
      have HQ1 := hid q1
      have hkp : i = (ps.take i).length := by rw [List.length_take, ← HN.out, Nat.min_eq_left hkn]
      have hmix : ∀ W ob, Below wr.heap.size wr W → Own W ob (wts (places ps i) (scales (places ps i)) x) → Calls Try.prog 79 #[.slice (some ⟨b, o, none⟩) i c, .slice (some ⟨ob, 0, none⟩) i i, .int .i64 L] W fun e w' => ∃ oc, W.heap.size ≤ oc ∧ e = .returned (.slice (some ⟨oc, 0, none⟩) L L) ∧ Own w' oc (mixL ((List.range i).map D) (wts (places ps i) (scales (places ps i)) x) L i) ∧ Below W.heap.size W w' := fun W ob hW how => by
        have h9 := how.bs (wts_lt _ _ _) i
        rw [wts_length, places_length] at h9
        have hW2 := hbw.trans (hW.mono hbw.size)
        refine rmix_any b o c ob 0 i i L (ps.take i) _ ((List.range i).map D) W ((HP.out.below hW2).take hkn) (by omega) hkp (fun q h => ?_) h9 hLb
        have hq : q < i := by rwa [← hkp] at h
        have hq2 : q < ps.length := by rw [← HN.out]; omega
        rw [range_map_getD _ _ _ hq]
        simp only [List.getElem_take]
        refine ⟨(HD.out q hq2).below hW2, ?_⟩
        have h5 := (HD.out q hq2).len
        rw [plen_at, HL.out q hq] at h5
        exact h5.symm
      have HMIX := hid hmix
      have hn0 : 0 < n := by omega
      clear hbs hbw hkp hmix
      go_wp2
      go_region_held3 (fun w' => w'.cell? ⟨b, o + 1, none⟩ = some (.slice d0 L e0))
        (first | with_reducible exact HQ1.out | with_reducible exact (hbC.cell (p := ⟨b, o + 1, none⟩) (Nat.lt_of_lt_of_le hb1 hbA.size)).trans ((hbA.cell (p := ⟨b, o + 1, none⟩) hb1).trans HQ1.out) | exact (hbA.cell (p := ⟨b, o + 1, none⟩) hb1).trans HQ1.out | exact HQ1.out)
        (first
          | (go_at_call 80
             refine (rweights_any xa i xc (places ps i) x hx _ (HBS.out.drewN 1) (by omega) HND.out).mono ?_
             rintro e0' wA ⟨ob, hob, rfl, how, hbA⟩
             have hbA := chainA hbA)
          | (go_at_call 79
             refine (HMIX.out _ _ hbA how).mono ?_
             rintro e0' wC ⟨oc, hoc, rfl, hoC, hbC⟩))
      all_goals
        have hbe := HBW.out.trans ((hbA.trans (hbC.mono hbA.size)).mono HBW.out.size)
        have hsz := hbA.size
        have hsz2 := HBW.out.size
        go_wp2
        go_ret
        exact ⟨oc, by omega, rfl, hoC, hbe⟩
end Go.Proofs.Ytbajekiliplclaa
