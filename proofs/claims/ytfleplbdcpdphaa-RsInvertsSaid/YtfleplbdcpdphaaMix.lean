/-
  The reference's mix: the sum of the pieces' data times the weights.
-/
import Derived.Test.YtfleplbdcpdphaaRefC
import Derived.Test.YtfleplbdcpdphaaQT
namespace Go.Proofs.Ytfleplbdcpdphaa
open Go.RowKit

set_option maxRecDepth 100000 in
set_option maxHeartbeats 4000000 in
theorem rmix_any (b o c wb wo wc k L : Nat) (ps : List (Int × Sl)) (ws : List Nat) (D : List (List Nat)) (w : World) (hp : Ps w (.slice (some ⟨b, o, none⟩) k c) ps) (hk : k ≤ 256) (hkp : k = ps.length)
    (hD : ∀ i, (h : i < ps.length) → Bs w (.slice ps[i].2.1 ps[i].2.2.1 ps[i].2.2.2) (D.getD i []) ∧ (D.getD i []).length = L)
    (hw : Bs w (.slice (some ⟨wb, wo, none⟩) k wc) ws) (hL : L ≤ 1000000) :
    Calls Try.prog 79 #[.slice (some ⟨b, o, none⟩) k c, .slice (some ⟨wb, wo, none⟩) k wc, .int .i64 L] w fun e w' => ∃ ob, w.heap.size ≤ ob ∧ e = .returned (.slice (some ⟨ob, 0, none⟩) L L) ∧ Own w' ob (mixL D ws L k) ∧ Below w.heap.size w w' := by
  have HD := hid hD
  have HP := hid hp
  have HKP := hid hkp
  have HWN := hid hw.len
  have HWL := hid hw.lt
  have HW := hid hw
  clear hD hp hkp hw
  have hmk := mk_u8 L (by omega)
  have ho := own_zrow w L
  rw [← mixL_zero D ws L] at ho
  have hb : Below w.heap.size w (w.alloc (zrow L)) := (Below.refl _ _).alloc (Nat.le_refl _) _
  go_enter Try.func79, Try.ntmps79
  go_wp2
  clear hmk
  go_loopw [8, 9] (fun iv _ wr => ∃ i : Nat, i ≤ k ∧ iv = .int .i64 i ∧ Own wr w.heap.size (mixL D ws L i) ∧ Below w.heap.size w wr) (fun iv _ _ => k - (intOf iv).toNat)
  case atStart => exact ⟨0, by omega, rfl, ho, hb⟩
  case round =>
    clear ho hb
    obtain ⟨i, hi, rfl, ho, hb⟩ := hrel
    obtain ⟨wo', rfl⟩ : ∃ wo' : World, wo' = wr := ⟨_, rfl⟩
    by_cases hlt : i < k
    · have hwb := HW.out.below hb
      have cw := hwb.cell i (by rw [← HWN.out]; exact hlt)
      have hwl := HWL.out i
      generalize hwi : ws.getD i 0 = wi at *
      by_cases hw0 : wi = 0
      · have hb1 : ((wi : Int) == 0) = true := by simp [hw0]
        have hst := mixL_skip D ws L i (by rw [hwi, hw0])
        have HST := hid hst
        clear hst hw0 hwi
        go_wp2
        refine ⟨⟨i + 1, by omega, by go_num, ?_, hb⟩, by simp [intOf]; omega⟩
        rw [HST.out]; exact ho
      · have hb1 : ((wi : Int) == 0) = false := by simp; omega
        have hst := mixL_step D ws L i
        rw [hwi] at hst
        have HST := hid hst
        have HWI := hid hwi
        clear hst hw0 hwi
        have hall : ∀ W, Below w.heap.size w W → W.cell? ⟨b, o + i * 2 + 1, none⟩ = some (.slice (ps[i]'(by rw [← HKP.out]; exact hlt)).2.1 (ps[i]'(by rw [← HKP.out]; exact hlt)).2.2.1 (ps[i]'(by rw [← HKP.out]; exact hlt)).2.2.2) ∧ Bs W (.slice (ps[i]'(by rw [← HKP.out]; exact hlt)).2.1 (ps[i]'(by rw [← HKP.out]; exact hlt)).2.2.1 (ps[i]'(by rw [← HKP.out]; exact hlt)).2.2.2) (D.getD i []) := fun W hW => ⟨((Ps.below HP.out hW).cells i (by rw [← HKP.out]; exact hlt)).2, (HD.out i (by rw [← HKP.out]; exact hlt)).1.below hW⟩
        have hcp := ((Ps.below HP.out hb).cells i (by rw [← HKP.out]; exact hlt)).2
        have hdi := HD.out i (by rw [← HKP.out]; exact hlt)
        have hbd := hdi.1.below hb
        have hlen := hdi.2
        have hbl := hdi.1.len
        have hdlow : 0 < L → Off w.heap.size (.slice (ps[i]'(by rw [← HKP.out]; exact hlt)).2.1 (ps[i]'(by rw [← HKP.out]; exact hlt)).2.2.1 (ps[i]'(by rw [← HKP.out]; exact hlt)).2.2.2) := fun h => hdi.1.off_ge (by intro e; rw [e] at hlen; simp at hlen; omega) (Nat.le_refl _)
        generalize ps[i].2.1 = da at *
        generalize ps[i].2.2.1 = dn at *
        generalize ps[i].2.2.2 = dc at *
        rw [hlen] at hbl
        subst hbl
        have HLEN := hid hlen
        have HBD := hid hbd
        have HDL := hid hbd.lt
        have HALL := hid hall
        clear hdi hbd hdlow hlen hall hcp
        go_wp2
        go_loopw [9] (fun cv wr => ∃ q : Nat, q ≤ dn ∧ cv = .int .i64 q ∧ Own wr w.heap.size (axTo (mixL D ws dn i) 0 (D.getD i []) wi q) ∧ Below w.heap.size wo' wr) (fun cv _ => dn - (intOf cv).toNat)
        case atStart => exact ⟨0, by omega, rfl, ho, Below.refl _ _⟩
        case round =>
          obtain ⟨q, hq, rfl, ho2, hb2⟩ := hrel
          by_cases hlt2 : q < dn
          · have hbr := hb.trans hb2
            have cw2 := (HW.out.below hbr).cell i (by rw [← HWN.out]; exact hlt)
            rw [HWI.out] at cw2
            obtain ⟨cp2, hbd2⟩ := HALL.out wr hbr
            rcases hbd2.addr with ⟨h0, _⟩ | ⟨h0, db, do', c', hv⟩
            · exfalso; have := HLEN.out; rw [h0] at this; simp at this; omega
            · simp only [Value.slice.injEq] at hv
              obtain ⟨rfl, hnn, hcc⟩ := hv
              clear hnn hcc h0
              have cd := hbd2.cell q (by rw [HLEN.out]; exact hlt2)
              have hdl := HDL.out q
              have co := ho2.cell q (by rw [axTo_length, mixL_length]; exact hlt2)
              have fo := ho2.free q
              have hzl : (axTo (mixL D ws dn i) 0 (D.getD i []) wi q).getD q 0 < 256 := by
                rw [axTo_getD _ _ _ _ _ (by rw [mixL_length]; omega)]
                have h6 := getD_lt (mixL_lt D ws dn i HWL.out) q
                split
                · exact Gf.xor_lt h6 (Gf.tm_lt _ _ hwl)
                · exact h6
              have hst : axTo (mixL D ws dn i) 0 (D.getD i []) wi (q + 1) = (axTo (mixL D ws dn i) 0 (D.getD i []) wi q).set (0 + q) ((axTo (mixL D ws dn i) 0 (D.getD i []) wi q).getD (0 + q) 0 ^^^ Gf.tm wi ((D.getD i []).getD q 0)) := rfl
              rw [Nat.zero_add] at hst
              have HS2 := hid hst
              clear hst
              generalize hz : (axTo (mixL D ws dn i) 0 (D.getD i []) wi q).getD q 0 = z at *
              have HZ := hid hz
              clear hz
              generalize (D.getD i []).getD q 0 = y at *
              have hxo := u8_xor_nat z (Gf.tm wi y) hzl (Gf.tm_lt _ _ hwl)
              go_wp2
              refine region_quiet_tail 19 (by kernel_rfl) (by kernel_rfl) ?_
              simp only [List.take_succ_cons, List.take_zero, List.drop_succ_cons, List.drop_zero]
              repeat (quiet_step ((go_at_call 48; exact Calls.quiet_of_same ((Times_any wi y hwl hdl _).mono fun e w' h => ⟨h.1, h.2.symm⟩))))
              refine wpQuiet_nil ?_
              intro nq
              go_wp2
              refine ⟨⟨q + 1, by omega, by go_num, ?_, ?_⟩, by simp [intOf]; omega⟩
              · rw [HS2.out]
                exact (ho2.drewN nq).set q _
              · exact (bel_drewN hb2 nq).setCell (Nat.le_refl _) _
          · obtain rfl : q = dn := by omega
            rw [HST.out] at ho2
            go_wp2
            exact ⟨⟨i + 1, by omega, by go_num, ho2, hb.trans hb2⟩, by simp [intOf]; omega⟩
    · obtain rfl : i = k := by omega
      go_wp2
      go_ret
      exact ⟨w.heap.size, Nat.le_refl _, rfl, ho, hb⟩
end Go.Proofs.Ytfleplbdcpdphaa
