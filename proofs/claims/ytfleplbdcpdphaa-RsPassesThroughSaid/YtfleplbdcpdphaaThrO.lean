/-
  The reference's Through at different places.
-/
import Derived.Test.YtfleplbdcpdphaaThr
import Derived.Test.YtfleplbdcpdphaaIntp
import Derived.Test.YtfleplbdcpdphaaRefC
import Derived.Test.YtfleplbdcpdphaaPoly
namespace Go.Proofs.Ytfleplbdcpdphaa
open Go Go.RowKit
set_option linter.unusedVariables false

/-- the coefficients of the product of all but x - l i -/
def vsL (X : List Nat) (i : Nat) : List Nat := (List.range X.length).map (VS X i X.length)
theorem vsL_length (X : List Nat) (i : Nat) : (vsL X i).length = X.length := by simp [vsL]
theorem vsL_getD (X : List Nat) (i j : Nat) (hj : j < X.length) : (vsL X i).getD j 0 = VS X i X.length j := by
  unfold vsL
  rw [rangeF_getD, if_pos hj]
theorem vsL_lt (X : List Nat) (i : Nat) : ∀ n ∈ vsL X i, n < 256 := by
  intro n hn
  obtain ⟨j, _, rfl⟩ := List.mem_map.1 hn
  exact VS_lt X i _ j
theorem by_vfL (X : List Nat) (k : Nat) : byTo (k + 1) (vfL X k) (X.getD k 0) (k + 1) = vfL X (k + 1) := by
  rw [byTo_all _ _ _ (vfL_length X k), cf_vfL]
  rfl
theorem wo_vfL (X : List Nat) (hX : ∀ i, X.getD i 0 < 256) (i : Nat) (hi : i < X.length) : woTo X.length (vfL X X.length) (X.getD i 0) X.length = vsL X i := by
  rw [woTo_all, cf_vfL]
  unfold vsL
  apply List.map_congr_left
  intro j hj
  have := List.mem_range.1 hj
  rw [quo_VF X hX i hi _ (by omega), show X.length - (X.length - j) = j from by omega]
theorem pval_vsL (X : List Nat) (hX : ∀ i, X.getD i 0 < 256) (i : Nat) (hi : i < X.length) : pval (vsL X i) (X.getD i 0) = pnTo X i X.length := by
  have h := fv_VS X hX i (X.getD i 0) (hX i) X.length
  rw [if_pos hi, pnX_self] at h
  rw [← h]
  unfold pval fv
  rw [vsL_length]
  exact sx_congr _ fun j hj => by rw [vsL_getD X i j hj]
theorem axTo_ip (X Y : List Nat) (i : Nat) (hi : i < X.length) : axTo (ipTo X Y i) 0 (vsL X i) (Gf.tm (Y.getD i 0) (scale X i)) X.length = ipTo X Y (i + 1) := by
  apply getD_ext'
  · rw [axTo_length, ipTo_length, ipTo_length]
  · intro j
    rw [axTo_getD _ _ _ _ _ (by rw [ipTo_length]; omega)]
    unfold ipTo
    rw [rangeF_getD, rangeF_getD]
    by_cases h : j < X.length
    · rw [if_pos (by omega), if_pos h, if_pos h, Nat.sub_zero, vsL_getD X i j h]
      rfl
    · rw [if_neg (by omega), if_neg h, if_neg h]

set_option maxRecDepth 100000 in
set_option maxHeartbeats 4000000 in
theorem Through_ok (a : Option Addr) (n c : Nat) (X Y : List Nat) (w : World) (hp : Pt w (.slice a n c) X Y) (h1 : 1 ≤ n) (h2 : n ≤ 256) (hd : X.Nodup) :
    Calls Try.prog 55 #[.slice a n c] w fun e w' => ∃ cb, w.heap.size ≤ cb ∧ e = .returned (.tuple #[.slice (some ⟨cb, 0, none⟩) n n, .int .i64 0]) ∧ Own w' cb ((List.range n).map (ipC X fun i => Y.getD i 0)) ∧ Below w.heap.size w w' := by
  have HN := hid hp.len.1
  obtain ⟨b, o, rfl⟩ := hp.addr (by omega)
  have HP := hid hp
  have HD := hid hd
  have HXL := hid hp.ltX
  have HYL := hid hp.ltY
  have b1 : ((n : Int) == 0) = false := by simp; omega
  have b2 : decide ((256 : Int) < n) = false := by simp; omega
  have hmk := mk_u8 n (by omega)
  clear hp hd
  go_enter Try.func55, Try.ntmps55
  go_wp2
  clear b1 b2
  go_loopw [5] (fun iv wr => ∃ i : Nat, i ≤ n ∧ iv = .int .i64 i ∧ Hid (Below w.heap.size w wr)) (fun iv _ => n - (intOf iv).toNat)
  case atStart => exact ⟨0, by omega, rfl, hid (Below.refl _ _)⟩
  case round =>
    obtain ⟨i, hi, rfl, HBE⟩ := hrel
    by_cases hlt : i < n
    · obtain ⟨wo, rfl⟩ : ∃ wo, wo = wr := ⟨_, rfl⟩
      go_wp2
      go_loopw [6] (fun iv wr => ∃ j : Nat, j ≤ i ∧ iv = .int .i64 j ∧ Hid (Below w.heap.size w wr)) (fun iv _ => i - (intOf iv).toNat)
      case atStart => exact ⟨0, by omega, rfl, HBE⟩
      case round =>
        obtain ⟨j, hj, rfl, HB2⟩ := hrel
        by_cases hlt2 : j < i
        · have c0 := ((HP.out.below HB2.out).cells i hlt).1
          have c1 := ((HP.out.below HB2.out).cells j (by omega)).1
          have hjn : j < n := by omega
          have e := nodup_getD HD.out (i := i) (j := j) (by rw [← HN.out]; exact hlt) (by rw [← HN.out]; exact hjn) (by omega)
          generalize X.getD i 0 = x at *
          generalize X.getD j 0 = y at *
          have b3 : ((x : Int) == (y : Int)) = false := by simp; omega
          clear e
          go_wp2
          go_quiet (fail)
          go_wp2
          exact ⟨⟨j + 1, by omega, by go_num, hid (bel_drewN HB2.out _)⟩, by simp [intOf] <;> omega⟩
        · obtain rfl : j = i := by omega
          go_wp2
          exact ⟨⟨j + 1, by omega, by go_num, HB2⟩, by simp [intOf] <;> omega⟩
    · obtain rfl : i = n := by omega
      have hown0 : Own (wr.alloc (Obj.cells #[.int .u8 1] 5)) wr.heap.size (vfL X 0) := heap_new _ _
      have HO0 := hid hown0
      have HB0 := hid (HBE.out.alloc HBE.out.size (Obj.cells #[.int .u8 1] 5))
      have hs0 := HBE.out.size
      clear hown0
      obtain ⟨wo, rfl⟩ : ∃ wo, wo = wr := ⟨_, rfl⟩
      go_wp2
      go_loopw [7, 8] (fun v iv wr => ∃ k qb : Nat, k ≤ i ∧ iv = .int .i64 k ∧ v = .slice (some ⟨qb, 0, none⟩) (k + 1) (k + 1) ∧ w.heap.size ≤ qb ∧ Hid (Own wr qb (vfL X k)) ∧ Hid (Below w.heap.size w wr)) (fun _ iv _ => i - (intOf iv).toNat)
      case atStart => exact ⟨0, wo.heap.size, by omega, rfl, rfl, hs0, HO0, HB0⟩
      case round =>
        clear HO0 HB0
        obtain ⟨k, qb, hk, rfl, rfl, hqb, HO, HB⟩ := hrel
        by_cases hlt2 : k < i
        · have c0 := ((HP.out.below HB.out).cells k hlt2).1
          have hxl := HXL.out k
          have hbs := HO.out.bs (vfL_lt X k) (k + 1)
          rw [vfL_length] at hbs
          have hby := by_any (some ⟨qb, 0, none⟩) (k + 1) (k + 1) (vfL X k) (X.getD k 0) _ hbs (by omega) hxl
          rw [by_vfL] at hby
          have HBY := hid hby
          generalize X.getD k 0 = x at *
          have hsr := HB.out.size
          clear hbs hby hmk
          go_wp2_with fail
          refine HBY.out.mono ?_
          rintro e w2 ⟨qc, hqc, rfl, ho2, hb2⟩
          have HO2 := hid ho2
          have HB2 := hid (HB.out.trans (hb2.mono hsr))
          clear ho2 hb2
          go_wp2
          exact ⟨⟨k + 1, qc, by omega, by go_num, rfl, by omega, HO2, HB2⟩, by simp [intOf] <;> omega⟩
        · obtain rfl : k = i := by omega
          clear hlt hlt2
          have hinv := own_zrow wr k
          have hz : List.replicate k 0 = ipTo X Y 0 := by rw [ipTo_zero, ← HN.out]
          rw [hz] at hinv
          have HI := hid hinv
          have HBI := hid (HB.out.alloc HB.out.size (zrow k))
          have HA := hid (HO.out.alloc (zrow k))
          have hql := HO.out.lt
          have hwl := HB.out.size
          clear hinv hz HO HB
          obtain ⟨wp, rfl⟩ : ∃ wp, wp = wr := ⟨_, rfl⟩
          go_wp2
          clear hmk
          go_loopw [10] (fun iv wr => ∃ i : Nat, i ≤ k ∧ iv = .int .i64 i ∧ Hid (Own wr wp.heap.size (ipTo X Y i)) ∧ Hid (Own wr qb (vfL X k)) ∧ Hid (Below w.heap.size w wr)) (fun iv _ => k - (intOf iv).toNat)
          case atStart => exact ⟨0, by omega, rfl, HI, HA, HBI⟩
          case round =>
            clear HI HA HBI
            obtain ⟨i, hi, rfl, HI, HA, HB⟩ := hrel
            by_cases hlt : i < k
            · obtain ⟨c0, c1⟩ := (HP.out.below HB.out).cells i hlt
              have hbs := HA.out.bs (vfL_lt X k) (k + 1)
              rw [vfL_length] at hbs
              have hxl := HXL.out i
              have hyl := HYL.out i
              have hwo := without_any qb 0 (k + 1) k (k + 1) (vfL X k) (X.getD i 0) _ hbs rfl (by omega) hxl
              have hw2 := wo_vfL X HXL.out i (by rw [← HN.out]; exact hlt)
              rw [← HN.out] at hw2
              rw [hw2] at hwo
              have HWO := hid hwo
              have hpv := pval_vsL X HXL.out i (by rw [← HN.out]; exact hlt)
              have hps := pnTo_pos X HXL.out HD.out i (by rw [← HN.out]; exact hlt) X.length (Nat.le_refl _)
              have hpl := pnTo_lt X HXL.out i X.length
              have hax := axTo_ip X Y i (by rw [← HN.out]; exact hlt)
              rw [← HN.out] at hax
              have hsc : scale X i = Gf.iv (pnTo X i X.length) := rfl
              rw [hsc] at hax
              have HAX := hid hax
              have HPV := hid hpv
              have HPS := hid hps
              clear hbs hwo hw2 hpv hps hax hsc
              obtain ⟨x, hx⟩ : ∃ x, x = X.getD i 0 := ⟨_, rfl⟩
              obtain ⟨y, hy⟩ : ∃ y, y = Y.getD i 0 := ⟨_, rfl⟩
              rw [← hx] at c0 hxl HWO HPV
              rw [← hy] at c1 hyl HAX
              clear hx hy
              generalize pnTo X i X.length = pn at *
              have hsr := HB.out.size
              have hcl := HI.out.lt
              have hal := HA.out.lt
              obtain ⟨wo, rfl⟩ : ∃ wo, wo = wr := ⟨_, rfl⟩
              go_wp2_with fail
              refine HWO.out.mono ?_
              rintro e w2 ⟨pb, hpb, rfl, hop, hb2⟩
              have hbp := hop.bs (vsL_lt X i) k
              rw [vsL_length, ← HN.out] at hbp
              have HOP := hid hop
              have HI2 := hid (HI.out.below hb2 hcl)
              have HA2 := hid (HA.out.below hb2 hal)
              have hc0 := (hb2.cell (World.block_lt_of_cell? _ _ c0)).trans c0
              have hc1 := (hb2.cell (World.block_lt_of_cell? _ _ c1)).trans c1
              have HB2 := hid (HB.out.trans (hb2.mono hsr))
              clear c0 c1 hb2 hop HI HA HB HWO
              have hil : Gf.iv pn < 256 := Gf.iv_lt _
              have hat : ∀ W, Bs W (.slice (some ⟨pb, 0, none⟩) k k) (vsL X i) → Calls Try.prog 53 #[.slice (some ⟨pb, 0, none⟩) k k, .int .u8 x] W fun e w' => e = .returned (.int .u8 pn) ∧ W = w' := fun W hW => by
                have h5 := At_any (some ⟨pb, 0, none⟩) k k (vsL X i) x hxl W hW (by omega)
                rwa [HPV.out] at h5
              have HAT := hid hat
              have hbr := hid hbp
              clear hat hbp
              go_wp2
              go_quiet ((first | (go_at_call 53; exact Calls.quiet_of_same ((HAT.out _ (by first | exact hbr.out | exact hbr.out.drewN _)).mono fun e w' h => ⟨h.1, h.2.symm⟩)) | (go_at_call 49; exact Calls.quiet_of_same ((Over_nz pn hpl HPS.out _).mono fun e w' h => ⟨h.1, h.2.symm⟩)) | (go_at_call 48; exact Calls.quiet_of_same ((Times_any y (Gf.iv pn) hyl hil _).mono fun e w' h => ⟨h.1, h.2.symm⟩))))
              have hfl : Gf.tm y (Gf.iv pn) < 256 := Gf.tm_lt _ _ hyl
              generalize Gf.tm y (Gf.iv pn) = cf at *
              have HB3 := hid (bel_drewN HB2.out nq)
              have HI3 := hid (HI2.out.drewN nq)
              have HA3 := hid (HA2.out.drewN nq)
              have HP3 := hid (HOP.out.drewN nq)
              clear HB2 HI2 HA2 HOP hbr hc0 hc1 HAT
              generalize w2.drewN nq = w3 at *
              have hpne : wp.heap.size ≠ pb := by omega
              have hqp : pb < w3.heap.size := HP3.out.lt
              go_wp2
              go_loopw [13] (fun iv wr => ∃ j : Nat, j ≤ k ∧ iv = .int .i64 j ∧ Hid (Own wr wp.heap.size (axTo (ipTo X Y i) 0 (vsL X i) cf j)) ∧ Hid (Own wr pb (vsL X i)) ∧ Hid (Own wr qb (vfL X k)) ∧ Hid (Below w.heap.size w wr)) (fun iv _ => k - (intOf iv).toNat)
              case atStart => exact ⟨0, by omega, rfl, HI3, HP3, HA3, HB3⟩
              case round =>
                clear HI3 HP3 HA3 HB3
                obtain ⟨j, hj, rfl, HI, HPP, HA, HB⟩ := hrel
                by_cases hlt3 : j < k
                · have cs := HI.out.cell j (by rw [axTo_length, ipTo_length, ← HN.out]; exact hlt3)
                  have fs := HI.out.free j
                  have cq := HPP.out.cell j (by rw [vsL_length, ← HN.out]; exact hlt3)
                  have hz : (axTo (ipTo X Y i) 0 (vsL X i) cf j).getD j 0 < 256 := by
                    rw [axTo_getD _ _ _ _ _ (by rw [ipTo_length, ← HN.out]; omega)]
                    split
                    · exact Gf.xor_lt (ipTo_lt X Y HYL.out i _) (Gf.tm_lt _ _ hfl)
                    · exact ipTo_lt X Y HYL.out i _
                  have hvl : (vsL X i).getD j 0 < 256 := by
                    rw [vsL_getD X i j (by rw [← HN.out]; exact hlt3)]
                    exact VS_lt X i _ j
                  have hst : axTo (ipTo X Y i) 0 (vsL X i) cf (j + 1) = (axTo (ipTo X Y i) 0 (vsL X i) cf j).set (0 + j) ((axTo (ipTo X Y i) 0 (vsL X i) cf j).getD (0 + j) 0 ^^^ Gf.tm cf ((vsL X i).getD j 0)) := rfl
                  rw [Nat.zero_add] at hst
                  have HST := hid hst
                  clear hst
                  generalize hzz : (axTo (ipTo X Y i) 0 (vsL X i) cf j).getD j 0 = z at *
                  generalize hvv : (vsL X i).getD j 0 = v at *
                  clear hzz hvv
                  have hxo := u8_xor_nat z (Gf.tm cf v) hz (Gf.tm_lt _ _ hfl)
                  have hjk : j < k := hlt3
                  go_wp2
                  refine region_quiet_tail 12 (by kernel_rfl) (by kernel_rfl) ?_
                  simp only [List.take_succ_cons, List.take_zero, List.drop_succ_cons, List.drop_zero]
                  repeat (quiet_step ((go_at_call 48; exact Calls.quiet_of_same ((Times_any cf v hfl hvl _).mono fun e w' h => ⟨h.1, h.2.symm⟩))))
                  refine wpQuiet_nil ?_
                  intro nr
                  go_wp2
                  refine ⟨⟨j + 1, by omega, by go_num, hid ?_, hid ?_, hid ?_, hid ?_⟩, by simp [intOf] <;> omega⟩
                  · rw [HST.out]
                    exact (HI.out.drewN nr).set j _
                  · exact (HPP.out.drewN nr).setCell (by exact hpne) _
                  · exact (HA.out.drewN nr).setCell (by show wp.heap.size ≠ qb; omega) _
                  · exact (bel_drewN HB.out nr).setCell (by show w.heap.size ≤ wp.heap.size; exact hwl) _
                · obtain rfl : j = k := by omega
                  have ho := HI.out
                  rw [HAX.out] at ho
                  have HO := hid ho
                  clear ho
                  go_wp2
                  exact ⟨⟨i + 1, by omega, by go_num, HO, HA, HB⟩, by simp [intOf] <;> omega⟩
            · obtain rfl : i = k := by omega
              have ho := HI.out
              have hall : ipTo X Y i = (List.range i).map (ipC X fun i => Y.getD i 0) := by
                have := ipTo_all X Y
                rwa [← HN.out] at this
              rw [hall] at ho
              have HO := hid ho
              clear ho hall
              go_wp2
              go_ret2
              exact ⟨wp.heap.size, hwl, rfl, HO.out, HB.out⟩
end Go.Proofs.Ytfleplbdcpdphaa
