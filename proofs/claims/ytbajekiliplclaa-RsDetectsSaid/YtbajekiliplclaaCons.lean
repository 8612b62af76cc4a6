/-
  Consistent and the reference's Agree: whether pieces belong together.
-/
import Derived.Test.YtbajekiliplclaaReb
import Derived.Test.YtbajekiliplclaaStr
import Derived.Test.YtbajekiliplclaaPoly
import Derived.Deep.RegionHeld3
namespace Go.Proofs.Ytbajekiliplclaa
open Go Go.RowKit
set_option linter.unusedVariables false

theorem bstr_beqC (a b : List Nat) (ha : ∀ n ∈ a, n < 256) (hb : ∀ n ∈ b, n < 256) : ((bstr a).toList == (bstr b).toList) = decide (a = b) := by
  by_cases e : a = b
  · subst e; simp
  · rw [decide_eq_false e]
    refine beq_eq_false_iff_ne.2 fun h => e (bstr_inj ha hb ?_)
    have : ∀ s : ByteArray, s.toList = s.data.toList := fun s => Go.ByteArray.toList_eq s
    rw [this, this] at h
    apply ByteArray.ext
    exact Array.toList_inj.1 h
theorem bytesEqual_any (a a' : Option Addr) (n n' c c' : Nat) (l l' : List Nat) (w : World) (h : Bs w (.slice a n c) l) (h' : Bs w (.slice a' n' c') l') :
    Calls Try.prog 87 #[.slice a n c, .slice a' n' c'] w fun e w' => e = .returned (.bool (decide (l = l'))) ∧ w = w' := by
  have c1 := conv_bs h
  have c2 := conv_bs h'
  have hl : ∀ x ∈ l, x < 256 := by obtain ⟨_, _, _, h, _⟩ := h; exact h
  have hl' : ∀ x ∈ l', x < 256 := by obtain ⟨_, _, _, h, _⟩ := h'; exact h
  rw [← bstr_beqC l l' hl hl']
  clear hl hl' h h'
  go_enter Try.func87, Try.ntmps87
  go_wp2
  go_ret
  exact ⟨rfl, rfl⟩

/-- the piece that the first k pieces determine at the number of piece i -/
def mixA (D : Nat → List Nat) (ps : List (Int × Sl)) (k L i : Nat) : List Nat := mixL ((List.range k).map D) (wts (places ps k) (scales (places ps k)) (pidx ps i).toNat) L k
open Gf in
theorem mixA_own {t : Int} {D : Nat → List Nat} {ps : List (Int × Sl)} {kn n L i : Nat} {ce : Nat → Int} (h : Fit kn t (pidx ps) ce n) (ht : t ≤ 255) (hD : ∀ j, j < kn → (D j).length = L ∧ ∀ c, (D j).getD c 0 < 256) (hi : i < kn) : mixA D ps kn L i = D i := by
  refine ext_getD (by rw [mixA, mixL_length, (hD i hi).1]) fun c hc => ?_
  rw [mixA, mixL_length] at hc
  rw [mixA, mixL_getD _ _ _ _ _ hc]
  have h1 := through_at (places ps kn) (places_nodup h) (fun j => if j < kn then (D j).getD c 0 else 0) (fun j => by
    show (if j < kn then (D j).getD c 0 else 0) < 256
    split
    · rename_i hj; exact (hD j hj).2 c
    · omega) i (by rw [places_length]; exact hi)
  rw [if_pos hi, places_getD ps kn i hi] at h1
  rw [← h1]
  unfold through
  rw [places_length]
  refine sx_congr _ fun j hj => ?_
  rw [rmap_getD _ _ _ hj]
  show _ = Gf.tm _ (if j < kn then (D j).getD c 0 else 0)
  rw [if_pos hj]
/-- whether something holds, without an error -/
def BoolRes (P : Prop) (e : Ending) : Prop := ∃ r : Bool, e = .returned (.tuple #[.bool r, .int .i64 0]) ∧ (r = true ↔ P)

set_option maxRecDepth 100000 in
set_option maxHeartbeats 4000000 in
theorem Consistent_ok (fb k t : Nat) (a : Option Addr) (n c : Nat) (ps : List (Int × Sl)) (D : Nat → List Nat) (h1 : 1 ≤ k) (h2 : k ≤ t) (h3 : t ≤ 255) (hn : n ≤ 100000) (hnc : n ≤ c) (w : World) (hF : Fld w fb) (hH : Held fb w (.slice a n c) ps D)
    (hz : chkAll k t (pidx ps) (alikeE ps) n = 0) :
    Calls Try.prog 40 #[.pointer (some ⟨fb, 0, none⟩), .int .i64 k, .int .i64 t, .slice a n c] w fun e w' => BoolRes (∀ i, k ≤ i → i < n → mixA D ps k (plen' ps 0) i = D i) e ∧ Built w' fb ∧ Kept fb w w' := by
  have hnot : ∀ (x : Bool) (w : World), (Op.unary .not (.bool x)).run Try.prog w = .ok (.bool (!x)) w := fun _ _ => rfl
  have hfit := fit_of hz
  have hkn : k ≤ n := by have := hfit.few; omega
  have hnp := hH.len
  obtain ⟨b, o, rfl⟩ : ∃ b o, a = some ⟨b, o, none⟩ := by
    obtain ⟨a', c', e1, e3⟩ := hH.now.1
    obtain ⟨b, o, ha, _⟩ := e3 (by intro e; rw [e] at hnp; simp at hnp; omega)
    simp at e1
    exact ⟨b, o, e1.1.trans ha⟩
  have hc := checkAlike_any (k : Int) (t : Int) (some ⟨b, o, none⟩) n c ps
  rw [hz] at hc
  have HC := hid hc
  have hal := alike_fit hfit
  have HLENS := hid (fun i h => (hal i h).1)
  have hLb := (hal 0 (by omega)).2
  have HFIT := hid hfit
  have HN := hid hnp
  have HF := hid hF
  have HH := hid hH
  have hfb0 := hF.lt
  clear hF hH hz hc hnp hal hfit
  generalize hL : plen' ps 0 = L at *
  clear hL
  go_enter Try.func40, Try.ntmps40
  go_wp2_with fail
  refine (valid_yes k t (by omega) (by omega) (by omega) _).mono ?_
  rintro e w' ⟨rfl, rfl⟩
  go_wp2_with fail
  refine (HC.out _ (by omega) HH.out.now.1 hn).mono ?_
  rintro e w2 ⟨rfl, hb2⟩
  have hb12 : Below w.heap.size w w2 := hb2
  have HB12 := hid hb12
  have hF2 : Fld w2 fb := HF.out.elim (fun h => .inl ((hb12.block _ hfb0).trans h)) (fun h => .inr ((hb12.block _ hfb0).trans h))
  clear hb2 hb12
  go_wp2_with fail
  refine (build_any fb _ hF2).mono ?_
  rintro e w3 ⟨rfl, hB3, hk3⟩
  have hK3 : Kept fb w w3 := (Kept.of_below HB12.out).trans hk3
  have HK3 := hid hK3
  have HH3 := hid (HH.out.step hK3)
  have HB3 := hid hB3
  clear hK3 hk3 hF2 hB3
  have hps3 := HH3.out.now.1.take hkn
  have HPS3 := hid hps3
  have hkp : k = (ps.take k).length := by rw [List.length_take, ← HN.out, Nat.min_eq_left hkn]
  have HKP := hid hkp
  have hcc : k ≤ c := by omega
  clear hps3 hkp
  have hpl := places_length ps k
  have HPL := hid hpl
  have hnum : ∀ i, (h : i < (ps.take k).length) → (ps.take k)[i].1 = (((places ps k).getD i 0 : Nat) : Int) := fun i h => by
    rw [← HKP.out] at h
    have h5 := HFIT.out.lo i (by omega)
    rw [List.getElem_take, pidx_at, places_getD ps k i h]
    omega
  have HNUM := hid hnum
  have HLT := hid (places_lt (k := k) HFIT.out (by omega))
  have HND := hid (places_nodup (k := k) HFIT.out)
  clear hnum hpl
  go_wp2_with fail
  refine (newSource_n fb b o c k (ps.take k) (places ps k) HKP.out _ HB3.out HPS3.out (by omega) (by omega) (by rw [HPL.out, ← HKP.out]) HNUM.out HLT.out HND.out).mono ?_
  rintro e w4 ⟨pb, sb, hpb, hsb, rfl, hopb, hosb, hb4⟩
  have hkk4 : Kept fb w w4 := HK3.out.trans (Kept.of_below hb4)
  have HB4 := hid (HB3.out.below hb4 HB3.out.lt)
  have HPL4 := hid hopb
  have HSC4 := hid hosb
  obtain ⟨w5, hw5⟩ : ∃ w5, w5 = w4.alloc (Obj.cells #[Value.slice (some ⟨b, o, none⟩) k c, Value.pointer (some ⟨fb, 0, none⟩), Value.slice (some ⟨pb, 0, none⟩) k k, Value.slice (some ⟨sb, 0, none⟩) k k] 103) := ⟨_, rfl⟩
  have hb45 : Below w4.heap.size w4 w5 := by rw [hw5]; exact (Below.refl _ _).alloc (Nat.le_refl _) _
  have HB5 := hid (HB4.out.below hb45 HB4.out.lt)
  have HX5 := hid (show w5.heap[w4.heap.size]? = some (Obj.cells #[Value.slice (some ⟨b, o, none⟩) k c, Value.pointer (some ⟨fb, 0, none⟩), Value.slice (some ⟨pb, 0, none⟩) k k, Value.slice (some ⟨sb, 0, none⟩) k k] 103) by rw [hw5]; exact heap_new _ _)
  have HP5 := hid (HPL4.out.below hb45 HPL4.out.lt)
  have HS5 := hid (HSC4.out.below hb45 HSC4.out.lt)
  have HK5 := hid (hkk4.trans (Kept.of_below hb45))
  have HR5 := hid (HH.out.step HK5.out)
  clear hopb hosb hb4 hkk4 hb45 HPL4 HSC4 HB4
  have hzero : ∀ q, q < 0 → mixA D ps k L (k + q) = D (k + q) := fun q h => absurd h (Nat.not_lt_zero _)
  by_cases hck : c = k
  · obtain rfl : n = k := by omega
    subst hck
    go_wp2
    rw [← hw5]
    clear hw5
    go_loopw [38] (fun iv wr => iv = .int .i64 0 ∧ Hid (wr = w5)) (fun iv _ => 0)
    case atStart => exact ⟨rfl, rfl⟩
    case round =>
      obtain ⟨rfl, hw⟩ := hrel
      have e := hw.out
      subst e
      go_wp2
      go_ret2
      exact ⟨⟨true, rfl, by simp; intro i h h'; omega⟩, HB5.out, HK5.out⟩
  · go_wp2
    rw [← hw5]
    have hw45 : w4.heap.size < w5.heap.size := lt_of_heap HX5.out
    clear hw5
    go_loopw [38] (fun iv wr => ∃ i : Nat, i ≤ n - k ∧ iv = .int .i64 i ∧ Hid (Below w5.heap.size w5 wr) ∧ Hid (∀ q, q < i → mixA D ps k L (k + q) = D (k + q))) (fun iv _ => (n - k) - (intOf iv).toNat)
    case atStart => exact ⟨0, by omega, rfl, hid (Below.refl _ _), hid hzero⟩
    case round =>
      clear hzero
      obtain ⟨i, hi, rfl, HBW, HG⟩ := hrel
      by_cases hlt : i < n - k
      · have hki : k + i < ps.length := by rw [← HN.out]; omega
        obtain ⟨q0, q1⟩ := (HR5.out.now.1.below HBW.out).cells (k + i) hki
        rw [pidx_at, show o + (k + i) * 2 = o + k * 2 + i * 2 from by omega] at q0
        rw [plen_at, show o + (k + i) * 2 + 1 = o + k * 2 + i * 2 + 1 from by omega, HLENS.out (k + i) (by omega)] at q1
        obtain ⟨v, hv⟩ : ∃ v : Nat, pidx ps (k + i) = v := ⟨(pidx ps (k + i)).toNat, by have := HFIT.out.lo (k + i) (by omega); omega⟩
        have hv2 : v < 256 := by have := HFIT.out.hi (k + i) (by omega); omega
        have HV := hid hv
        have hdd := (HR5.out.now.2 (k + i) hki).below HBW.out
        rw [plen_at, HLENS.out (k + i) (by omega)] at hdd
        rw [hv] at q0
        clear hv
        generalize (ps[k + i]'_).2.1 = da at *
        generalize (ps[k + i]'_).2.2.2 = dc at *
        have HDD := hid hdd
        have HX := hid ((HBW.out.block _ (lt_of_heap HX5.out)).trans HX5.out)
        have hxr := lt_of_heap HX.out
        clear hdd
        obtain ⟨wp, hwp⟩ : ∃ wp, wp = wr.alloc (Obj.cells #[.int .i64 v, .slice da L dc] 36) := ⟨_, rfl⟩
        have hbp : Below wr.heap.size wr wp := by rw [hwp]; exact (Below.refl _ _).alloc (Nat.le_refl _) _
        have hpp : wp.heap[wr.heap.size]? = some (Obj.cells #[.int .i64 v, .slice da L dc] 36) := by rw [hwp]; exact heap_new _ _
        have HBP := hid (HBW.out.trans (hbp.mono HBW.out.size))
        have HPP := hid hpp
        have HXP := hid ((hbp.block _ hxr).trans HX.out)
        have hpl := lt_of_heap hpp
        have hkeep : ∀ wx, Below wp.heap.size wp wx → wx.cell? ⟨wr.heap.size, 0, none⟩ = some (.int .i64 v) ∧ wx.cell? ⟨wr.heap.size, 1, none⟩ = some (.slice da L dc) ∧ wx.cell? ⟨w4.heap.size, 0, none⟩ = some (.slice (some ⟨b, o, none⟩) k c) ∧ wx.cell? ⟨w4.heap.size, 1, none⟩ = some (.pointer (some ⟨fb, 0, none⟩)) ∧ wx.cell? ⟨w4.heap.size, 2, none⟩ = some (.slice (some ⟨pb, 0, none⟩) k k) ∧ wx.cell? ⟨w4.heap.size, 3, none⟩ = some (.slice (some ⟨sb, 0, none⟩) k k) := fun wx hb => by
          have g1 := (hb.block _ (lt_of_heap HPP.out)).trans HPP.out
          have g2 := (hb.block _ (lt_of_heap HXP.out)).trans HXP.out
          exact ⟨cell_of_heap g1 0, cell_of_heap g1 1, cell_of_heap g2 0, cell_of_heap g2 1, cell_of_heap g2 2, cell_of_heap g2 3⟩
        have KEEP := hid hkeep
        have hpiece : ∀ wx, Below wp.heap.size wp wx → Calls Try.prog 78 #[.agg #[.slice (some ⟨b, o, none⟩) k c, .pointer (some ⟨fb, 0, none⟩), .slice (some ⟨pb, 0, none⟩) k k, .slice (some ⟨sb, 0, none⟩) k k], .int .i64 v] wx fun e w' => ∃ oc, e = .returned (.slice (some ⟨oc, 0, none⟩) L L) ∧ Bs w' (.slice (some ⟨oc, 0, none⟩) L L) (mixA D ps k L (k + i)) ∧ Below wx.heap.size wx w' := fun wx hb => by
          have hbx : Below w5.heap.size w5 wx := HBP.out.trans (hb.mono HBP.out.size)
          have hKx : Kept fb w wx := HK5.out.trans (Kept.of_below hbx)
          have hdat : ∀ i, (h : i < (ps.take k).length) → Bs wx (.slice (ps.take k)[i].2.1 (ps.take k)[i].2.2.1 (ps.take k)[i].2.2.2) (((List.range k).map D).getD i []) ∧ (((List.range k).map D).getD i []).length = L := fun i h => by
            have h' := h
            rw [← HKP.out] at h'
            have hi2 : i < ps.length := by rw [← HN.out]; omega
            rw [rmap_getD _ _ _ h']
            simp only [List.getElem_take]
            exact ⟨(HH.out wx hKx).2 i hi2, by rw [HH.out.data i hi2]; exact HLENS.out i (by omega)⟩
          have hpl : Bs wx (.slice (some ⟨pb, 0, none⟩) k k) (places ps k) := by
            have h5 := (HP5.out.below hbx HP5.out.lt).bs HLT.out k
            rwa [HPL.out] at h5
          have hsl : Bs wx (.slice (some ⟨sb, 0, none⟩) k k) (scales (places ps k)) := by
            have h5 := (HS5.out.below hbx HS5.out.lt).bs (scales_lt _) k
            rwa [scales_length, HPL.out] at h5
          refine (piece_any fb b o c pb 0 k sb 0 k k L v (ps.take k) (places ps k) ((List.range k).map D) wx (HB5.out.below hbx HB5.out.lt) ((HH.out wx hKx).1.take hkn) (by omega) (by omega) HKP.out HPL.out.symm hdat hpl hsl hv2 (by omega)).mono ?_
          rintro e w' ⟨oc, _, rfl, ho, hb6⟩
          refine ⟨oc, rfl, ?_, hb6⟩
          unfold mixA
          rw [HV.out]
          exact mixL_bs ho (fun i => getD_lt (wts_lt _ _ _) i)
        have HPIECE := hid hpiece
        have HDP := hid (HDD.out.below hbp)
        clear hkeep hpiece hbp hpp
        go_wp2
        rw [← hwp]
        clear hwp q0 q1
        go_region_held3 (fun wx => wx.cell? ⟨wr.heap.size, 0, none⟩ = some (.int .i64 v) ∧ wx.cell? ⟨wr.heap.size, 1, none⟩ = some (.slice da L dc) ∧ wx.cell? ⟨w4.heap.size, 0, none⟩ = some (.slice (some ⟨b, o, none⟩) k c) ∧ wx.cell? ⟨w4.heap.size, 1, none⟩ = some (.pointer (some ⟨fb, 0, none⟩)) ∧ wx.cell? ⟨w4.heap.size, 2, none⟩ = some (.slice (some ⟨pb, 0, none⟩) k k) ∧ wx.cell? ⟨w4.heap.size, 3, none⟩ = some (.slice (some ⟨sb, 0, none⟩) k k))
          (first | exact KEEP.out _ hbA | exact KEEP.out _ (bel_drewN (Below.refl _ _) 1) | exact KEEP.out _ (Below.refl _ _))
          (first
            | (go_at_call 78
               refine (HPIECE.out _ (bel_drewN (Below.refl _ _) 1)).mono ?_
               rintro e wA ⟨oc, rfl, hbs, hbA⟩
               have hbA : Below wp.heap.size wp wA := by first | exact chainA hbA | exact hbA
               have HDA := hid (HDP.out.below hbA))
            | (go_at_call 87
               refine (bytesEqual_any da (some ⟨oc, 0, none⟩) L L dc L (D (k + i)) (mixA D ps k L (k + i)) _ HDA.out hbs).mono ?_
               rintro e w' ⟨rfl, rfl⟩))
        all_goals
          have HBA := hid (HBP.out.trans (hbA.mono HBP.out.size))
          by_cases heq : D (k + i) = mixA D ps k L (k + i)
          · have b1 : decide (D (k + i) = mixA D ps k L (k + i)) = true := by simpa using heq
            have HG2 := hid (show ∀ q, q < i + 1 → mixA D ps k L (k + q) = D (k + q) from fun q hq => by
              by_cases e : q = i
              · rw [e]; exact heq.symm
              · exact HG.out q (by omega))
            rw [b1]
            clear heq b1
            go_wp2
            exact ⟨⟨i + 1, by omega, by go_num, HBA, HG2⟩, by simp [intOf]; omega⟩
          · have b1 : decide (D (k + i) = mixA D ps k L (k + i)) = false := by simpa using heq
            have HEQ := hid heq
            rw [b1]
            clear heq b1
            go_wp2
            go_ret2
            refine ⟨⟨false, rfl, ?_⟩, HB5.out.below HBA.out HB5.out.lt, HK5.out.trans (Kept.of_below HBA.out)⟩
            simp
            exact ⟨k + i, by omega, by omega, fun e => HEQ.out e.symm⟩
      · obtain rfl : i = n - k := by omega
        go_wp2
        go_ret2
        refine ⟨⟨true, rfl, ?_⟩, HB5.out.below HBW.out HB5.out.lt, HK5.out.trans (Kept.of_below HBW.out)⟩
        simp
        intro q hq1 hq2
        have h5 := HG.out (q - k) (by omega)
        rwa [show k + (q - k) = q from by omega] at h5
end Go.Proofs.Ytbajekiliplclaa
