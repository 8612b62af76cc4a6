/-
  The reference's weights. · The reference's mix: the sum of the pieces' data times the weights. · The reference's Length; which sizes are allowed. · Lists of pieces that are made: what owns them, and the step of an append. · string(bytes) of bytes that read as a list. · SamePieces of the reference, where the two lists are the same. · The given arguments as lists: bytes, numbers, pieces. · The given arguments that are a slice of bytes, or a piece. · Two digests that read alike are equal; a guarded append.
-/
import Derived.Test.YtehjikogdaclgaaDoorBb3
import Derived.Test.YtehjikogdaclgaaDoorBb9
import Derived.Test.YtehjikogdaclgaaDoorBb1
import Derived.Test.YtehjikogdaclgaaDoorBb4
import Derived.Deep.QuietTactic
import Derived.BigQuiet
import Derived.Deep.RegionLaw
import Derived.Test.YtehjikogdaclgaaDoorBb2
import Derived.Laws.BytesArg
import Derived.WalkKit
import Derived.ProofKit
import Derived.OpenShut
import Derived.Deep.SlicePairs
import Derived.Test.YtehjikogdaclgaaDoorBb5
import Derived.ChangeKeysEq
namespace Go.Proofs.YtehjikogdaclgaaDoor
open Go.RowKit

theorem cell_of_new (w : World) (x : Value) (t : TypeId) : ∀ (j : Nat) (u : Value), [x][j]? = some u → (w.alloc (.cells #[x] t)).cell? ((⟨w.heap.size, 0, none⟩ : Addr).add j) = some u := by
  intro j u h
  cases j with
  | zero =>
    simp at h
    subst h
    show (w.alloc (.cells #[x] t)).cell? ⟨w.heap.size, 0, none⟩ = some x
    simp
  | succ j => simp at h
theorem u8s_snoc (l : List Nat) (n : Nat) : u8s l ++ [.int .u8 (n : Int)] = u8s (l ++ [n]) := by simp [u8s]

/-- the factors of the reference's product below -/
def bnTo (l : List Nat) (x i : Nat) : Nat → Nat
  | 0 => x ^^^ l.getD i 0
  | j + 1 => if j ≠ i then Gf.tm (bnTo l x i j) (l.getD i 0 ^^^ l.getD j 0) else bnTo l x i j
theorem bnTo_lt (l : List Nat) (hl : ∀ i, l.getD i 0 < 256) (x : Nat) (hx : x < 256) (i : Nat) : ∀ j, bnTo l x i j < 256
  | 0 => Gf.xor_lt hx (hl i)
  | j + 1 => by
    unfold bnTo
    split
    · exact Gf.tm_lt _ _ (bnTo_lt l hl x hx i j)
    · exact bnTo_lt l hl x hx i j
theorem bnTo_eq (l : List Nat) (hl : ∀ i, l.getD i 0 < 256) (x : Nat) (hx : x < 256) (i : Nat) : ∀ j, bnTo l x i j = Gf.tm (x ^^^ l.getD i 0) (pnTo l i j)
  | 0 => (Gf.tm_one_right _ (Gf.xor_lt hx (hl i))).symm
  | j + 1 => by
    unfold bnTo pnTo
    by_cases h : j = i
    · rw [if_neg (by simp [h]), if_neg (by simp [h]), bnTo_eq l hl x hx i j]
    · rw [if_pos h, if_pos (fun e => h e.symm), bnTo_eq l hl x hx i j, Gf.tm_assoc _ _ _ (Gf.xor_lt hx (hl i)) (pnTo_lt l hl i j) (Gf.xor_lt (hl i) (hl j))]
theorem iv_tm (a b : Nat) (ha : a < 256) (hb : b < 256) (a0 : a ≠ 0) (b0 : b ≠ 0) : Gf.iv (Gf.tm a b) = Gf.tm (Gf.iv a) (Gf.iv b) := by
  refine (Gf.iv_unique _ _ (Gf.tm_lt _ _ ha) (Gf.tm_lt _ _ (Gf.iv_lt a)) ?_).symm
  have h1 := Gf.iv_lt a
  have h2 := Gf.iv_lt b
  rw [Gf.tm_assoc a b _ ha hb (Gf.tm_lt _ _ h1), Gf.tm_comm b _ hb (Gf.tm_lt _ _ h1), Gf.tm_assoc _ _ b h1 h2 hb, Gf.tm_comm (Gf.iv b) b h2 hb, Gf.tm_iv b hb b0, Gf.tm_one_right _ h1, Gf.tm_iv a ha a0]
/-- the reference's weight -/
theorem rwt_eq (l : List Nat) (hl : ∀ i, l.getD i 0 < 256) (hd : l.Nodup) (x : Nat) (hx : x < 256) (i : Nat) (hi : i < l.length) (hxi : x ≠ l.getD i 0) : Gf.tm (pxTo l x l.length) (Gf.iv (bnTo l x i l.length)) = wt l (scales l) x i := by
  have h1 := Gf.xor_lt hx (hl i)
  have h2 := pnTo_lt l hl i l.length
  have h3 := pnTo_pos l hl hd i hi l.length (Nat.le_refl _)
  have h4 := xor_ne hxi
  unfold wt
  rw [bnTo_eq l hl x hx, iv_tm _ _ h1 h2 h4 h3, scales_getD l i hi]
  unfold scale
  rw [Gf.tm_assoc _ _ _ (pxTo_lt l x _) (Gf.iv_lt _) (Gf.iv_lt _)]

theorem Over_nz (x : Nat) (hx : x < 256) (h0 : x ≠ 0) (w : World) :
    Calls Tryd.prog 86 #[.int .u8 x] w fun e w' => e = .returned (.int .u8 (Gf.iv x)) ∧ w = w' := by
  have h := Over_any x hx w
  rwa [if_neg h0] at h

set_option maxRecDepth 100000 in
set_option maxHeartbeats 4000000 in
theorem rweights_any (a : Option Addr) (n c : Nat) (l : List Nat) (x : Nat) (hx : x < 256) (w : World) (hl : Bs w (.slice a n c) l) (hn : n ≤ 256) (hd : l.Nodup) :
    Calls Tryd.prog 74 #[.slice a n c, .int .u8 x] w fun e w' => ∃ ob, w.heap.size ≤ ob ∧ e = .returned (.slice (some ⟨ob, 0, none⟩) n n) ∧ Own w' ob (wts l (scales l) x) ∧ Below w.heap.size w w' := by
  have HNL := hid hl.len
  have HLT := hid hl.lt
  have HD := hid hd
  clear hd
  have hmk := mk_u8 n (by omega)
  have ho := own_zrow w n
  have hb : Below w.heap.size w (w.alloc (zrow n)) := (Below.refl _ _).alloc (Nat.le_refl _) _
  have hl1 := hl.below hb
  go_enter Tryd.func74, Tryd.ntmps74
  go_wp2
  clear hmk
  go_loop [6] (fun iv => ∃ i : Nat, i ≤ n ∧ iv = .int .i64 i ∧ Hid (∀ j, j < i → l.getD j 0 ≠ x)) (fun iv => n - (intOf iv).toNat)
  case atStart => exact ⟨0, by omega, rfl, fun j hj => absurd hj (Nat.not_lt_zero _)⟩
  case round =>
    obtain ⟨i, hi, rfl, HNE⟩ := hrel
    by_cases hlt : i < n
    · rcases hl1.addr with ⟨h0, _⟩ | ⟨h0, b, o, c', hv⟩
      · exfalso; have := HNL.out; rw [h0] at this; simp at this; omega
      · simp only [Value.slice.injEq] at hv
        obtain ⟨rfl, hnn, hcc⟩ := hv
        clear hnn hcc h0
        have hc := hl1.cell i (by rw [← HNL.out]; exact hlt)
        have hcl := HLT.out i
        by_cases hix : l.getD i 0 = x
        · have hwt : wts l (scales l) x = (List.replicate n 0).set i 1 := by
            have hil : i < l.length := by rw [← HNL.out]; exact hlt
            have hm : x ∈ l := by
              rw [← hix, List.getD_eq_getElem?_getD, List.getElem?_eq_getElem hil]; exact List.getElem_mem _
            have hidx : l.idxOf x = i := by
              have h1 := List.idxOf_lt_length_of_mem hm
              have h2 : l.getD (l.idxOf x) 0 = x := by
                rw [List.getD_eq_getElem?_getD, List.getElem?_eq_getElem h1]; exact List.getElem_idxOf h1
              by_cases e : l.idxOf x = i
              · exact e
              · exact absurd (h2.trans hix.symm) (nodup_getD HD.out h1 hil e)
            unfold wts
            rw [if_pos hm, hidx, ← HNL.out]
          have t1 : (((l.getD i 0 : Nat) : Int) == (x : Int)) = true := by rw [hix]; simp
          have HW := hid hwt
          clear hwt hix
          generalize l.getD i 0 = p at *
          have co := ho.cell i (by simpa using hlt)
          have fo := ho.free i
          go_wp2
          go_ret
          exact ⟨w.heap.size, Nat.le_refl _, rfl, by rw [HW.out]; exact ho.set i 1, hb.setCell (Nat.le_refl _) _⟩
        · have t1 : (((l.getD i 0 : Nat) : Int) == (x : Int)) = false := by rw [beq_eq_false_iff_ne]; exact fun h => hix (by omega)
          have hne2 : ∀ j, j < i + 1 → l.getD j 0 ≠ x := fun j hj => by
            by_cases e : j = i
            · rw [e]; exact hix
            · exact HNE.out j (by omega)
          have HNE2 := hid hne2
          clear hne2 hix
          generalize l.getD i 0 = p at *
          go_wp2
          exact ⟨⟨i + 1, by omega, by go_num, HNE2⟩, by simp [intOf]; omega⟩
    · obtain rfl : i = n := by omega
      have hwt : wts l (scales l) x = upTo i (wt l (scales l) x) i := by
        have hm : ¬ x ∈ l := fun hm => by
          have h1 := List.idxOf_lt_length_of_mem hm
          have h2 : l.getD (l.idxOf x) 0 = x := by
            rw [List.getD_eq_getElem?_getD, List.getElem?_eq_getElem h1]; exact List.getElem_idxOf h1
          exact HNE.out _ (by rw [HNL.out]; exact h1) h2
        unfold wts
        rw [if_neg hm, upTo_all, HNL.out]
      have HW := hid hwt
      rw [← upTo_zero i (wt l (scales l) x)] at ho
      clear hwt
      go_wp2
      go_loop [7, 8] (fun p iv => ∃ m : Nat, m ≤ i ∧ iv = .int .i64 m ∧ p = .int .u8 (pxTo l x m)) (fun _ iv => i - (intOf iv).toNat)
      case atStart => exact ⟨0, by omega, rfl, rfl⟩
      case round =>
        obtain ⟨m, hm, rfl, rfl⟩ := hrel
        by_cases hlt : m < i
        · rcases hl1.addr with ⟨h0, _⟩ | ⟨h0, b, o, c', hv⟩
          · exfalso; have := HNL.out; rw [h0] at this; simp at this; omega
          · simp only [Value.slice.injEq] at hv
            obtain ⟨rfl, hnn, hcc⟩ := hv
            clear hnn hcc h0
            have hc := hl1.cell m (by rw [← HNL.out]; exact hlt)
            have hcl := HLT.out m
            have hpl := pxTo_lt l x m
            have hst : pxTo l x (m + 1) = Gf.tm (pxTo l x m) (x ^^^ l.getD m 0) := rfl
            have HS := hid hst
            clear hst
            generalize l.getD m 0 = pm at *
            have hxi := u8_xor_nat x pm hx hcl
            have hxl := Gf.xor_lt hx hcl
            generalize x ^^^ pm = xx at *
            generalize pxTo l x m = pp at *
            go_wp2_with (go_at_call 85; refine (Times_any pp xx hpl hxl _).mono ?_; rintro e w' ⟨rfl, rfl⟩)
            exact ⟨⟨m + 1, by omega, by go_num, by rw [HS.out]⟩, by simp [intOf]; omega⟩
        · obtain rfl : m = i := by omega
          have hpx := pxTo_lt l x m
          have hpe : ∀ j, j < m → Gf.tm (pxTo l x m) (Gf.iv (bnTo l x j m)) = wt l (scales l) x j := fun j hj => by
            have h5 := rwt_eq l HLT.out HD.out x hx j (by rw [← HNL.out]; exact hj) (fun e => HNE.out j hj e.symm)
            rwa [← HNL.out] at h5
          have HPE := hid hpe
          clear hpe
          generalize pxTo l x m = pp at *
          go_wp2
          go_loopw [9, 10, 11] (fun iv _ _ wr => ∃ j : Nat, j ≤ m ∧ iv = .int .i64 j ∧ Own wr w.heap.size (upTo m (wt l (scales l) x) j) ∧ Below w.heap.size w wr) (fun iv _ _ _ => m - (intOf iv).toNat)
          case atStart => exact ⟨0, by omega, rfl, ho, hb⟩
          case round =>
            clear ho hb hl1
            obtain ⟨j, hj, rfl, ho, hb⟩ := hrel
            obtain ⟨wo, rfl⟩ : ∃ wo : World, wo = wr := ⟨_, rfl⟩
            by_cases hlt2 : j < m
            · have hl2 := hl.below hb
              rcases hl2.addr with ⟨h0, _⟩ | ⟨h0, b, o, c', hv⟩
              · exfalso; have := HNL.out; rw [h0] at this; simp at this; omega
              · simp only [Value.slice.injEq] at hv
                obtain ⟨rfl, hnn, hcc⟩ := hv
                clear hnn hcc h0
                have hc := hl2.cell j (by rw [← HNL.out]; exact hlt2)
                have hcl := HLT.out j
                have hxi := u8_xor_nat x (l.getD j 0) hx hcl
                have hbn0 : bnTo l x j 0 = x ^^^ l.getD j 0 := rfl
                rw [← hbn0] at hxi
                have hbl := bnTo_lt l HLT.out x hx j
                have HBL := hid hbl
                clear hbl hbn0
                generalize hpj : l.getD j 0 = pj at *
                have HPJ := hid hpj
                clear hpj
                go_wp2
                go_loopw [10, 11] (fun p iv wr => ∃ q : Nat, q ≤ m ∧ iv = .int .i64 q ∧ p = .int .u8 (bnTo l x j q) ∧ ∃ dr, Hid (wr = wo.drewN dr)) (fun _ iv _ => m - (intOf iv).toNat)
                case atStart => exact ⟨0, by omega, rfl, rfl, 0, rfl⟩
                case round =>
                  obtain ⟨q, hq, rfl, rfl, dr, hw⟩ := hrel
                  have hw' := hw.out
                  by_cases hlt3 : q < m
                  · by_cases hqj : q = j
                    · have hb1 : ((q : Int) != (j : Int)) = false := by simp [hqj]
                      have hst : bnTo l x j (q + 1) = bnTo l x j q := by
                        show (if q ≠ j then _ else _) = _
                        rw [if_neg (by simp [hqj])]
                      have HST := hid hst
                      clear hst hqj hw'
                      go_wp2
                      go_roundw
                      case rel => exact ⟨q + 1, by omega, by go_num, by rw [HST.out], dr, hw⟩
                      case measure => simp [intOf]; omega
                    · have hb1 : ((q : Int) != (j : Int)) = true := by simp; omega
                      have hst : bnTo l x j (q + 1) = Gf.tm (bnTo l x j q) (pj ^^^ l.getD q 0) := by
                        show (if q ≠ j then _ else _) = _
                        rw [if_pos hqj, HPJ.out]
                      have HST := hid hst
                      have hl3 : Bs wr (.slice (some ⟨b, o, none⟩) m c) l := by rw [hw']; exact hl2.drewN dr
                      have hcj : wr.cell? ⟨b, o + j, none⟩ = some (.int .u8 (pj : Int)) := by rw [hw']; exact hc
                      have hcq := hl3.cell q (by rw [← HNL.out]; exact hlt3)
                      have hql := HLT.out q
                      have hbq := HBL.out q
                      clear hst hqj hw'
                      generalize l.getD q 0 = pq at *
                      have hxi2 := u8_xor_nat pj pq hcl hql
                      have hxl2 := Gf.xor_lt hcl hql
                      generalize bnTo l x j q = bb at *
                      go_wp2
                      go_quiet ((go_at_call 85; exact Calls.quiet_of_same ((Times_any bb _ hbq hxl2 _).mono fun e w' h => ⟨h.1, h.2.symm⟩)))
                      go_wp2
                      go_roundw
                      case rel => exact ⟨q + 1, by omega, by go_num, by rw [HST.out], dr + nq, by rw [hw.out, World.drewN_drewN]; exact hid rfl⟩
                      case measure => simp [intOf]; omega
                  · obtain rfl : q = m := by omega
                    have hbq := HBL.out q
                    have hb0 : bnTo l x j q ≠ 0 := by
                      rw [bnTo_eq l HLT.out x hx]
                      exact Gf.tm_pos _ _ (Gf.xor_lt hx (HLT.out j)) (pnTo_lt l HLT.out j q) (xor_ne (fun e => HNE.out j hlt2 e.symm)) (pnTo_pos l HLT.out HD.out j (by rw [← HNL.out]; exact hlt2) q (by rw [HNL.out]; exact Nat.le_refl _))
                    have hwj := HPE.out j hlt2
                    have HWJ := hid hwj
                    have HB0 := hid hb0
                    clear hwj hb0
                    have ho' : Own wr w.heap.size (upTo q (wt l (scales l) x) j) := by rw [hw']; exact ho.drewN dr
                    have hbr : Below w.heap.size w wr := by rw [hw']; exact bel_drewN hb dr
                    have co := ho'.cell j (by rw [upTo_length]; exact hlt2)
                    have fo := ho'.free j
                    have hil := Gf.iv_lt (bnTo l x j q)
                    generalize bnTo l x j q = bb at *
                    clear hw'
                    go_wp2_with fail
                    refine (Over_nz bb hbq HB0.out _).mono ?_
                    rintro e w' ⟨rfl, rfl⟩
                    go_wp2_with fail
                    refine (Times_any pp (Gf.iv bb) hpx hil _).mono ?_
                    rintro e w' ⟨rfl, rfl⟩
                    go_wp2
                    refine ⟨⟨j + 1, by omega, by go_num, ?_, hbr.setCell (Nat.le_refl _) _⟩, by simp [intOf]; omega⟩
                    rw [← upTo_set, ← HWJ.out]
                    exact ho'.set j _
            · obtain rfl : j = m := by omega
              go_wp2
              go_ret
              exact ⟨w.heap.size, Nat.le_refl _, rfl, by rw [HW.out]; exact ho, hb⟩
end Go.Proofs.YtehjikogdaclgaaDoor

namespace Go.Proofs.YtehjikogdaclgaaDoor
open Go.RowKit

set_option maxRecDepth 100000 in
set_option maxHeartbeats 4000000 in
theorem rmix_any (b o c wb wo wc k L : Nat) (ps : List (Int × Sl)) (ws : List Nat) (D : List (List Nat)) (w : World) (hp : Ps w (.slice (some ⟨b, o, none⟩) k c) ps) (hk : k ≤ 256) (hkp : k = ps.length)
    (hD : ∀ i, (h : i < ps.length) → Bs w (.slice ps[i].2.1 ps[i].2.2.1 ps[i].2.2.2) (D.getD i []) ∧ (D.getD i []).length = L)
    (hw : Bs w (.slice (some ⟨wb, wo, none⟩) k wc) ws) (hL : L ≤ 1000000) :
    Calls Tryd.prog 73 #[.slice (some ⟨b, o, none⟩) k c, .slice (some ⟨wb, wo, none⟩) k wc, .int .i64 L] w fun e w' => ∃ ob, w.heap.size ≤ ob ∧ e = .returned (.slice (some ⟨ob, 0, none⟩) L L) ∧ Own w' ob (mixL D ws L k) ∧ Below w.heap.size w w' := by
  have HD := hid hD
  have HP := hid hp
  have HKP := hid hkp
  have HWN := hid hw.len
  have HWL := hid hw.lt
  have HW := hid hw
  clear hD hp hkp hw
  have hmk := mk_u8 L (by omega)
  have ho := own_zrow w L
  rw [← mixL_zero D ws L] at ho
  have hb : Below w.heap.size w (w.alloc (zrow L)) := (Below.refl _ _).alloc (Nat.le_refl _) _
  go_enter Tryd.func73, Tryd.ntmps73
  go_wp2
  clear hmk
  go_loopw [8, 9] (fun iv _ wr => ∃ i : Nat, i ≤ k ∧ iv = .int .i64 i ∧ Own wr w.heap.size (mixL D ws L i) ∧ Below w.heap.size w wr) (fun iv _ _ => k - (intOf iv).toNat)
  case atStart => exact ⟨0, by omega, rfl, ho, hb⟩
  case round =>
    clear ho hb
    obtain ⟨i, hi, rfl, ho, hb⟩ := hrel
    obtain ⟨wo', rfl⟩ : ∃ wo' : World, wo' = wr := ⟨_, rfl⟩
    by_cases hlt : i < k
    · have hwb := HW.out.below hb
      have cw := hwb.cell i (by rw [← HWN.out]; exact hlt)
      have hwl := HWL.out i
      generalize hwi : ws.getD i 0 = wi at *
      by_cases hw0 : wi = 0
      · have hb1 : ((wi : Int) == 0) = true := by simp [hw0]
        have hst := mixL_skip D ws L i (by rw [hwi, hw0])
        have HST := hid hst
        clear hst hw0 hwi
        go_wp2
        refine ⟨⟨i + 1, by omega, by go_num, ?_, hb⟩, by simp [intOf]; omega⟩
        rw [HST.out]; exact ho
      · have hb1 : ((wi : Int) == 0) = false := by simp; omega
        have hst := mixL_step D ws L i
        rw [hwi] at hst
        have HST := hid hst
        have HWI := hid hwi
        clear hst hw0 hwi
        have hall : ∀ W, Below w.heap.size w W → W.cell? ⟨b, o + i * 2 + 1, none⟩ = some (.slice (ps[i]'(by rw [← HKP.out]; exact hlt)).2.1 (ps[i]'(by rw [← HKP.out]; exact hlt)).2.2.1 (ps[i]'(by rw [← HKP.out]; exact hlt)).2.2.2) ∧ Bs W (.slice (ps[i]'(by rw [← HKP.out]; exact hlt)).2.1 (ps[i]'(by rw [← HKP.out]; exact hlt)).2.2.1 (ps[i]'(by rw [← HKP.out]; exact hlt)).2.2.2) (D.getD i []) := fun W hW => ⟨((Ps.below HP.out hW).cells i (by rw [← HKP.out]; exact hlt)).2, (HD.out i (by rw [← HKP.out]; exact hlt)).1.below hW⟩
        have hcp := ((Ps.below HP.out hb).cells i (by rw [← HKP.out]; exact hlt)).2
        have hdi := HD.out i (by rw [← HKP.out]; exact hlt)
        have hbd := hdi.1.below hb
        have hlen := hdi.2
        have hbl := hdi.1.len
        have hdlow : 0 < L → Off w.heap.size (.slice (ps[i]'(by rw [← HKP.out]; exact hlt)).2.1 (ps[i]'(by rw [← HKP.out]; exact hlt)).2.2.1 (ps[i]'(by rw [← HKP.out]; exact hlt)).2.2.2) := fun h => hdi.1.off_ge (by intro e; rw [e] at hlen; simp at hlen; omega) (Nat.le_refl _)
        generalize ps[i].2.1 = da at *
        generalize ps[i].2.2.1 = dn at *
        generalize ps[i].2.2.2 = dc at *
        rw [hlen] at hbl
        subst hbl
        have HLEN := hid hlen
        have HBD := hid hbd
        have HDL := hid hbd.lt
        have HALL := hid hall
        clear hdi hbd hdlow hlen hall hcp
        go_wp2
        go_loopw [9] (fun cv wr => ∃ q : Nat, q ≤ dn ∧ cv = .int .i64 q ∧ Own wr w.heap.size (axTo (mixL D ws dn i) 0 (D.getD i []) wi q) ∧ Below w.heap.size wo' wr) (fun cv _ => dn - (intOf cv).toNat)
        case atStart => exact ⟨0, by omega, rfl, ho, Below.refl _ _⟩
        case round =>
          obtain ⟨q, hq, rfl, ho2, hb2⟩ := hrel
          by_cases hlt2 : q < dn
          · have hbr := hb.trans hb2
            have cw2 := (HW.out.below hbr).cell i (by rw [← HWN.out]; exact hlt)
            rw [HWI.out] at cw2
            obtain ⟨cp2, hbd2⟩ := HALL.out wr hbr
            rcases hbd2.addr with ⟨h0, _⟩ | ⟨h0, db, do', c', hv⟩
            · exfalso; have := HLEN.out; rw [h0] at this; simp at this; omega
            · simp only [Value.slice.injEq] at hv
              obtain ⟨rfl, hnn, hcc⟩ := hv
              clear hnn hcc h0
              have cd := hbd2.cell q (by rw [HLEN.out]; exact hlt2)
              have hdl := HDL.out q
              have co := ho2.cell q (by rw [axTo_length, mixL_length]; exact hlt2)
              have fo := ho2.free q
              have hzl : (axTo (mixL D ws dn i) 0 (D.getD i []) wi q).getD q 0 < 256 := by
                rw [axTo_getD _ _ _ _ _ (by rw [mixL_length]; omega)]
                have h6 := getD_lt (mixL_lt D ws dn i HWL.out) q
                split
                · exact Gf.xor_lt h6 (Gf.tm_lt _ _ hwl)
                · exact h6
              have hst : axTo (mixL D ws dn i) 0 (D.getD i []) wi (q + 1) = (axTo (mixL D ws dn i) 0 (D.getD i []) wi q).set (0 + q) ((axTo (mixL D ws dn i) 0 (D.getD i []) wi q).getD (0 + q) 0 ^^^ Gf.tm wi ((D.getD i []).getD q 0)) := rfl
              rw [Nat.zero_add] at hst
              have HS2 := hid hst
              clear hst
              generalize hz : (axTo (mixL D ws dn i) 0 (D.getD i []) wi q).getD q 0 = z at *
              have HZ := hid hz
              clear hz
              generalize (D.getD i []).getD q 0 = y at *
              have hxo := u8_xor_nat z (Gf.tm wi y) hzl (Gf.tm_lt _ _ hwl)
              go_wp2
              refine region_quiet_tail 19 (by kernel_rfl) (by kernel_rfl) ?_
              simp only [List.take_succ_cons, List.take_zero, List.drop_succ_cons, List.drop_zero]
              repeat (quiet_step ((go_at_call 85; exact Calls.quiet_of_same ((Times_any wi y hwl hdl _).mono fun e w' h => ⟨h.1, h.2.symm⟩))))
              refine wpQuiet_nil ?_
              intro nq
              go_wp2
              refine ⟨⟨q + 1, by omega, by go_num, ?_, ?_⟩, by simp [intOf]; omega⟩
              · rw [HS2.out]
                exact (ho2.drewN nq).set q _
              · exact (bel_drewN hb2 nq).setCell (Nat.le_refl _) _
          · obtain rfl : q = dn := by omega
            rw [HST.out] at ho2
            go_wp2
            exact ⟨⟨i + 1, by omega, by go_num, ho2, hb.trans hb2⟩, by simp [intOf]; omega⟩
    · obtain rfl : i = k := by omega
      go_wp2
      go_ret
      exact ⟨w.heap.size, Nat.le_refl _, rfl, ho, hb⟩
end Go.Proofs.YtehjikogdaclgaaDoor

namespace Go.Proofs.YtehjikogdaclgaaDoor
open Go.RowKit

theorem length_ok (k n : Nat) (h1 : 1 ≤ k) (h2 : k ≤ 255) (h3 : n ≤ 8192) (w : World) :
    Calls Tryd.prog 57 #[.int .i64 k, .int .i64 n] w fun e w' => e = .returned (.tuple #[.int .i64 (plen k n), .int .i64 0]) ∧ w = w' := by
  have b1 : decide ((k : Int) < 1) = false := by simp; omega
  have b2 : decide ((255 : Int) < (k : Int)) = false := by simp; omega
  have b3 : decide ((n : Int) < 0) = false := by simp
  have b4 : decide ((8192 : Int) < (n : Int)) = false := by simp; omega
  have hle := plen_le k n h1
  go_enter Tryd.func57, Tryd.ntmps57
  go_wp2
  go_loop [6] (fun l => ∃ m : Nat, m ≤ plen k n ∧ l = .int .i64 m) (fun l => plen k n - (intOf l).toNat)
  case atStart => exact ⟨0, by omega, rfl⟩
  case round =>
    obtain ⟨m, hm, rfl⟩ := hrel
    have hkm : k * m ≤ 255 * 8192 := Nat.mul_le_mul h2 (by omega)
    have hcast : ((k : Int) * (m : Int)) = ((k * m : Nat) : Int) := rfl
    by_cases hlt : m < plen k n
    · have hc := plen_lt k n m h1 hlt
      generalize k * m = q at *
      generalize plen k n = p at *
      have hd : decide ((q : Int) < (n : Int)) = true := by simp; omega
      go_wp2
      exact ⟨⟨m + 1, by omega, by go_num⟩, by simp [intOf]; omega⟩
    · obtain rfl : m = plen k n := by omega
      have hc := plen_ge k n h1
      generalize k * plen k n = q at *
      generalize hp : plen k n = p at *
      have HP := hid hp
      clear hp
      have hd : decide ((q : Int) < (n : Int)) = false := by simp; omega
      go_wp2
      go_ret2
      exact ⟨by rw [HP.out]; rfl, rfl⟩
theorem length_bad (k n : Int) (h : ¬ (1 ≤ k ∧ k ≤ 255 ∧ 0 ≤ n ∧ n ≤ 8192)) (w : World) :
    Calls Tryd.prog 57 #[.int .i64 k, .int .i64 n] w fun e w' => e = .returned (.tuple #[.int .i64 0, .int .i64 2]) ∧ w = w' := by
  by_cases h1 : k < 1
  · go_enter Tryd.func57, Tryd.ntmps57
    go_wp2
    go_ret2
    exact ⟨rfl, rfl⟩
  · by_cases h2 : 255 < k
    · go_enter Tryd.func57, Tryd.ntmps57
      go_wp2
      go_ret2
      exact ⟨rfl, rfl⟩
    · by_cases h3 : n < 0
      · go_enter Tryd.func57, Tryd.ntmps57
        go_wp2
        go_ret2
        exact ⟨rfl, rfl⟩
      · have h4 : 8192 < n := by omega
        go_enter Tryd.func57, Tryd.ntmps57
        go_wp2
        go_ret2
        exact ⟨rfl, rfl⟩
end Go.Proofs.YtehjikogdaclgaaDoor

namespace Go.Proofs.YtehjikogdaclgaaDoor
open Go.RowKit
set_option linter.unusedVariables false

theorem rsizes_yes (k t : Int) (h1 : 1 ≤ k) (h2 : k ≤ t) (h3 : t ≤ 255) (w : World) :
    Calls Tryd.prog 56 #[.int .i64 k, .int .i64 t] w fun e w' => e = .returned (.bool true) ∧ w = w' := by
  go_enter Tryd.func56, Tryd.ntmps56
  go_wp2
  go_ret
  exact ⟨rfl, rfl⟩
theorem rsizes_no (k t : Int) (h : ¬ (1 ≤ k ∧ k ≤ t ∧ t ≤ 255)) (w : World) :
    Calls Tryd.prog 56 #[.int .i64 k, .int .i64 t] w fun e w' => e = .returned (.bool false) ∧ w = w' := by
  by_cases h1 : 1 ≤ k
  · by_cases h2 : k ≤ t
    · have h3 : ¬ t ≤ 255 := by omega
      clear h
      go_enter Tryd.func56, Tryd.ntmps56
      go_wp2
      go_ret
      exact ⟨rfl, rfl⟩
    · clear h
      go_enter Tryd.func56, Tryd.ntmps56
      go_wp2
      go_ret
      exact ⟨rfl, rfl⟩
  · clear h
    go_enter Tryd.func56, Tryd.ntmps56
    go_wp2
    go_ret
    exact ⟨rfl, rfl⟩

theorem owns_below {w w' : World} {base size n : Nat} {e : TypeId} {v : Value} {xs : List Value} (h : w.ownsRow base e size v n xs) (k : Below w.heap.size w w') : w'.ownsRow base e size v n xs := by
  obtain ⟨h1, h2⟩ := h
  refine ⟨h1, ?_⟩
  rcases h2 with h2 | ⟨g, cap, cur, h3, h4, h5, h6⟩
  · exact .inl h2
  · exact .inr ⟨g, cap, cur, h3, h4, (k.block g (lt_of_heap h5)).trans h5, h6⟩
/-- a row of pieces, its first k elements -/
theorem ps_of_owns {w : World} {base g cap n k c : Nat} {ps : List (Int × Sl)} (h : w.ownsRow base 44 2 (.slice (some ⟨g, 0, none⟩) n cap) n (pcells ps)) (hk : k ≤ ps.length) : Ps w (.slice (some ⟨g, 0, none⟩) k c) (ps.take k) := by
  obtain ⟨h1, h2⟩ := h
  rcases h2 with ⟨h2, _⟩ | ⟨g', cap', cur, h3, h4, h5, _, _, _, h6⟩
  · cases h2
  · simp only [Value.slice.injEq, Option.some.injEq, Addr.mk.injEq, and_true, true_and] at h3
    obtain ⟨rfl, _⟩ := h3
    have hlen : (ps.take k).length = k := by simp; omega
    have hpl : n = ps.length := by rw [pcells_length] at h1; omega
    refine ⟨_, c, by rw [hlen], fun _ => ⟨g, 0, rfl, fun i hi => ?_⟩⟩
    rw [hlen] at hi
    have e : ∀ j, j < n * 2 → cur[j]? = (pcells ps)[j]? := fun j hj => by
      rw [← h6, List.getElem?_take_of_lt hj, Array.getElem?_toList]
    have hi2 : i < ps.length := by omega
    rw [Nat.zero_add, cell_of_heap h5, cell_of_heap h5, e _ (by omega), e _ (by omega), pcells_get0 ps i hi2, pcells_get1 ps i hi2]
    simp
theorem cells_of_new2 (w : World) (x y : Value) (t : TypeId) : ∀ (j : Nat) (u : Value), [x, y][j]? = some u → (w.alloc (.cells #[x, y] t)).cell? ((⟨w.heap.size, 0, none⟩ : Addr).add j) = some u := by
  intro j u h
  match j with
  | 0 =>
    simp at h
    subst h
    show (w.alloc (.cells #[x, y] t)).cell? ⟨w.heap.size, 0, none⟩ = some x
    simp
  | 1 =>
    simp at h
    subst h
    show (w.alloc (.cells #[x, y] t)).cell? ⟨w.heap.size, 0 + 1, none⟩ = some y
    simp
  | j + 2 => simp at h
theorem mkps_snoc (bf : Nat → Nat) (L i nb : Nat) : pcells (mkps bf L i i) ++ [.int .i64 (i : Int), .slice (some ⟨nb, 0, none⟩) L L] = pcells (mkps (fun j => if j = i then nb else bf j) L (i + 1) (i + 1)) := by
  have e : mkps (fun j => if j = i then nb else bf j) L (i + 1) (i + 1) = mkps bf L i i ++ [((i : Int), some ⟨nb, 0, none⟩, L, L)] := by
    apply List.ext_getElem?
    intro j
    unfold mkps
    by_cases hj : j < i
    · rw [List.getElem?_append_left (by simpa using hj)]
      simp [hj, show j < i + 1 by omega, show ¬ j = i by omega]
    · rw [List.getElem?_append_right (by simp; omega)]
      by_cases h2 : j = i
      · subst h2; simp
      · rw [List.getElem?_eq_none (by simp; omega), List.getElem?_eq_none (by simp; omega)]
  rw [e, pcells_append]
  rfl

theorem step_append_own {P : Program} {ops : Array Oper} {o : Oper} {a : Act} {w : World} {K : Act → World → Prop} {Q : Exit → Act → World → Prop} {E : Prop} (hgd : o.guard = none) (s x : Operand) (t : TypeId)
    (ho : o.op = .call { callee := .builtin .append, args := #[s, x], argTypes := #[t, t] })
    (base : Nat) (e : TypeId) (i : TypeInfo) (z : Value) (size bytes : Nat) (ht : P.underlying t = some (.slice e)) (hi : P.info? e = some i) (hz : i.zero = some z)
    (hsize : i.size = size) (hby : i.bytes = bytes) (hzs : z.cells.size = size) (hsz : 0 < size)
    (v : Value) (n : Nat) (xs : List Value) (hs : a.eval s = v) (hown : w.ownsRow base e size v n xs)
    (ad : Addr) (m c : Nat) (news : List Value) (hx : a.eval x = .slice (some ad) m c) (hl : news.length = m * size) (hnews : ∀ j u, news[j]? = some u → w.cell? (ad.add j) = some u) (h1 : ∀ u ∈ news, u.oneCell' = true)
    (h63 : n + m ≤ maxLen) (hbytes : (n + m) * bytes ≤ 140737488355328) (hbase : base ≤ w.heap.size)
    (hK : ∀ v' w', w'.ownsRow base e size v' (n + m) (xs ++ news) → w.grownBy w' v.ownBlock → K (a.put o.dst v') w') :
    if Region.wanted o (yielded ops a.tmps) = true then Oper.wp P o a w K Q else E := by
  have hw : Region.wanted o (yielded ops a.tmps) = true := by simp [Region.wanted, hgd]
  rw [if_pos hw]
  exact wp_append_own w s x t ho base e i z size bytes ht hi hz hsize hby hzs hsz v n xs hs hown ad m c news hx hl hnews h1 h63 hbytes hbase fun v' w' h2 h3 _ => hK v' w' h2 h3
theorem chainA {wr wA : World} (h1 : Below wr.drew.heap.size wr.drew wA) : Below wr.heap.size wr wA := ⟨h1.os, h1.tape, h1.output, h1.size, h1.block⟩
theorem chainB {wr wA wB : World} (h1 : Below wr.drew.heap.size wr.drew wA) (h2 : Below wA.heap.size wA wB) : Below wr.heap.size wr wB := (chainA h1).trans (h2.mono h1.size)
theorem chainC {wr wA wB wC : World} (h1 : Below wr.drew.heap.size wr.drew wA) (h2 : Below wA.heap.size wA wB) (h3 : Below wB.heap.size wB wC) : Below wr.heap.size wr wC := (chainB h1 h2).trans (h3.mono (Nat.le_trans h1.size h2.size))
theorem two_one (x y : Int) (a b : Option Addr) (n m n' m' : Nat) (k : IntKind) : ∀ u ∈ [Value.int k x, Value.slice a n m], u.oneCell' = true := by
  intro u hu; simp at hu; rcases hu with rfl | rfl <;> rfl

/-- what the loops of Split keep -/
structure RSInv (B L k : Nat) (bf : Nat → Nat) (d : List Nat) (w wr : World) (v : Value) (i : Nat) : Prop where
  own : wr.ownsRow B 44 2 v i (pcells (mkps bf L i i))
  rows : ∀ j, j < i → Own wr (bf j) (encP d k L j)
  below : Below B w wr
theorem RSInv.step {B L k i nb : Nat} {bf : Nat → Nat} {d : List Nat} {w wr w1 w2 w3 : World} {v v' : Value} (h : RSInv B L k bf d w wr v i) (hB : B ≤ wr.heap.size) (h1 : Below wr.heap.size wr w1) (hnb : Own w1 nb (encP d k L i))
    (h2 : w2 = w1.alloc (.cells #[.int .i64 (i : Int), .slice (some ⟨nb, 0, none⟩) L L] 44)) (h3 : w3.ownsRow B 44 2 v' (i + 1) (pcells (mkps bf L i i) ++ [.int .i64 (i : Int), .slice (some ⟨nb, 0, none⟩) L L])) (h4 : w2.grownBy w3 v.ownBlock) :
    RSInv B L k (fun j => if j = i then nb else bf j) d w w3 v' (i + 1) := by
  subst h2
  have hs1 := h1.size
  have hne : ∀ g, v.ownBlock = some g → g ≠ nb ∧ (∀ j, j < i → bf j ≠ g) := fun g hg => by
    obtain ⟨_, h7⟩ := h.own
    rcases h7 with ⟨h8, _⟩ | ⟨g', cap, cur, h8, _, h9, _⟩
    · subst h8; cases hg
    · subst h8
      simp [Value.ownBlock] at hg
      subst hg
      refine ⟨fun e => ?_, fun j hj e => ?_⟩
      · subst e
        have h10 := (h1.block g' (lt_of_heap h9)).trans h9
        rw [hnb] at h10
        simp at h10
      · have h10 := h.rows j hj
        rw [e] at h10
        unfold Own at h10
        rw [h9] at h10
        simp at h10
  have hkeep : ∀ b l, Own w1 b l → (∀ g, v.ownBlock = some g → b ≠ g) → Own w3 b l := fun b l hb hg => by
    have h5 := hb.lt
    refine (h4.block b (by simp; omega) (fun e => ?_)).trans (hb.alloc _)
    exact hg b e.symm rfl
  refine ⟨by rw [← mkps_snoc]; exact h3, fun j hj => ?_, ?_⟩
  · show Own w3 (if j = i then nb else bf j) _
    by_cases e : j = i
    · rw [if_pos e, e]; exact hkeep nb _ hnb (fun g hg => fun e2 => (hne g hg).1 e2.symm)
    · rw [if_neg e]
      have h6 := h.rows j (by omega)
      exact hkeep _ _ (h6.below h1 h6.lt) (fun g hg => (hne g hg).2 j (by omega))
  · refine ((h.below.trans (h1.mono hB)).alloc (by omega) _).grown h4 (by simp; omega) (fun g hg => ?_)
    obtain ⟨_, h7⟩ := h.own
    rcases h7 with ⟨h8, _⟩ | ⟨g', cap, cur, h8, h9, _⟩
    · subst h8; cases hg
    · subst h8; simp [Value.ownBlock] at hg; omega

theorem pzero : ((Tryd.prog.info? 44).map (fun i => (i.zero, i.size, i.bytes))) = some (some (.agg #[.int .i64 0, .slice none 0 0]), 2, 32) := by kernel_rfl
theorem spl_upTo (d : List Nat) (L i q : Nat) (hq : q ≤ L) (h : q = L ∨ d.length ≤ i * L + q) : upTo L (fun c => d.getD (i * L + c) 0) q = spl d L i := by
  unfold upTo spl
  apply List.map_congr_left
  intro c hc
  have hcL := List.mem_range.1 hc
  by_cases h2 : c < q
  · rw [if_pos h2]
  · rw [if_neg h2, List.getD_eq_getElem?_getD, List.getElem?_eq_none (by omega)]; rfl
end Go.Proofs.YtehjikogdaclgaaDoor

namespace Go.Proofs.YtehjikogdaclgaaDoor
open Go.RowKit

def bstr (l : List Nat) : ByteArray := ⟨(l.map UInt8.ofNat).toArray⟩
theorem conv_bs {w : World} {a : Option Addr} {n c : Nat} {l : List Nat} (h : Bs w (.slice a n c) l) : (convert 22 9 (.slice a n c)).run Tryd.prog w = .ok (.string (bstr l)) w := by
  have hn := h.len
  rcases h.addr with ⟨h0, a', c', hv⟩ | ⟨h0, b, o, c', hv⟩
  · simp only [Value.slice.injEq] at hv
    obtain ⟨rfl, rfl, rfl⟩ := hv
    subst h0
    cases a with
    | none => exact run_convert_bytes_nil w _ _ Tryd.underlying22 Tryd.underlying5 _ _ _ Tryd.underlying9
    | some x =>
      have h2 := run_bytesToString (P := Tryd.prog) w x 0 c [] (by simpa using run_loadCells_list (P := Tryd.prog) w x [] (by simp))
      rw [run_convert_bytes_string w _ _ _ _ 0 c Tryd.underlying22 Tryd.underlying5 Tryd.underlying9, h2]
      rfl
  · simp only [Value.slice.injEq] at hv
    obtain ⟨rfl, rfl, rfl⟩ := hv
    have h2 := run_convert_bytes_arg (P := Tryd.prog) w 22 5 Tryd.underlying22 Tryd.underlying5 b o l.length c (l.map fun (x : Nat) => (x : Int)) (by simp) (fun i hi => by
      rw [h.cell i hi]
      simp [List.getElem?_eq_getElem hi]) 9 Tryd.underlying9
    rw [h2]
    simp [strOfNums, bstr, Function.comp_def]
theorem bstr_inj {a b : List Nat} (ha : ∀ n ∈ a, n < 256) (hb : ∀ n ∈ b, n < 256) (h : bstr a = bstr b) : a = b := by
  have h1 : a.map UInt8.ofNat = b.map UInt8.ofNat := by
    have := congrArg (fun x : ByteArray => x.data.toList) h
    simpa [bstr] using this
  have e : ∀ l : List Nat, (∀ n ∈ l, n < 256) → (l.map UInt8.ofNat).map UInt8.toNat = l := by
    intro l hl
    rw [List.map_map]
    conv => rhs; rw [← List.map_id l]
    apply List.map_congr_left
    intro x hx
    have := hl x hx
    show (UInt8.ofNat x).toNat = x
    rw [UInt8.toNat_ofNat']
    omega
  rw [← e a ha, ← e b hb, h1]
end Go.Proofs.YtehjikogdaclgaaDoor

namespace Go.Proofs.YtehjikogdaclgaaDoor
open Go.RowKit
set_option linter.unusedVariables false

theorem ps_addr {w : World} {a : Option Addr} {n c : Nat} {ps : List (Int × Sl)} (h : Ps w (.slice a n c) ps) (hn : 0 < n) : n = ps.length ∧ ∃ b o, a = some ⟨b, o, none⟩ ∧ ∀ i, (h : i < ps.length) → w.cell? ⟨b, o + i * 2, none⟩ = some (.int .i64 ps[i].1) ∧ w.cell? ⟨b, o + i * 2 + 1, none⟩ = some (.slice ps[i].2.1 ps[i].2.2.1 ps[i].2.2.2) := by
  obtain ⟨a', c', h1, h2⟩ := h
  simp only [Value.slice.injEq] at h1
  obtain ⟨rfl, rfl, rfl⟩ := h1
  exact ⟨rfl, h2 (fun e => by rw [e] at hn; exact absurd hn (Nat.lt_irrefl 0))⟩

set_option maxRecDepth 100000 in
set_option maxHeartbeats 1000000 in
theorem same_yes (a a' : Option Addr) (n c c' : Nat) (psA psB : List (Int × Sl)) (D : Nat → List Nat) (w : World) (hA : Ps w (.slice a n c) psA) (hB : Ps w (.slice a' n c') psB) (hn : n ≤ 1000000)
    (hix : ∀ i, (h : i < psA.length) → (h' : i < psB.length) → psA[i].1 = psB[i].1)
    (hDA : ∀ i, (h : i < psA.length) → Bs w (.slice psA[i].2.1 psA[i].2.2.1 psA[i].2.2.2) (D i))
    (hDB : ∀ i, (h : i < psB.length) → Bs w (.slice psB[i].2.1 psB[i].2.2.1 psB[i].2.2.2) (D i)) :
    Calls Tryd.prog 23 #[.slice a n c, .slice a' n c'] w fun e w' => e = .returned (.bool true) ∧ Below w.heap.size w w' := by
  have HA := hid hA
  have HB := hid hB
  have HIX := hid hix
  have HDA := hid hDA
  have HDB := hid hDB
  clear hA hB hix hDA hDB
  go_enter Tryd.func23, Tryd.ntmps23
  go_wp2
  go_loopw [5] (fun iv wr => ∃ i : Nat, i ≤ n ∧ iv = .int .i64 i ∧ Below w.heap.size w wr) (fun iv _ => n - (intOf iv).toNat)
  case atStart => exact ⟨0, by omega, rfl, Below.refl _ _⟩
  case round =>
    obtain ⟨i, hi, rfl, hb⟩ := hrel
    have HBEL := hid hb
    clear hb
    by_cases hlt : i < n
    · obtain ⟨hnA, bA, oA, rfl, hcA⟩ := ps_addr (HA.out.below HBEL.out) (by omega)
      obtain ⟨hnB, bB, oB, rfl, hcB⟩ := ps_addr (HB.out.below HBEL.out) (by omega)
      obtain ⟨a0, a1⟩ := hcA i (by omega)
      obtain ⟨b0, b1⟩ := hcB i (by omega)
      have hdA := (HDA.out i (by omega)).below HBEL.out
      have hdB := (HDB.out i (by omega)).below HBEL.out
      rw [HIX.out i (by omega) (by omega)] at a0
      generalize psB[i]'(by omega) = pB at *
      generalize psA[i]'(by omega) = pA at *
      have cvA := fun q => conv_bs (hdA.drewN q)
      have cvB := fun q => conv_bs (hdB.drewN q)
      generalize bstr (D i) = S at *
      clear hcA hcB hnA hnB hdA hdB
      go_wp2
      go_quiet (fail)
      go_wp2
      exact ⟨⟨i + 1, by omega, by go_num, bel_drewN HBEL.out nq⟩, by simp [intOf]; omega⟩
    · obtain rfl : i = n := by omega
      go_wp2
      go_ret
      exact ⟨rfl, HBEL.out⟩
end Go.Proofs.YtehjikogdaclgaaDoor

namespace Go.Proofs.YtehjikogdaclgaaDoor
open Go.ChangeShapes Go.WideShapes Go.ChangeAt Go.RowKit
set_option linter.unusedVariables false

/-- a slice of bytes that came in -/
def By (W : World) (a : Option Addr) (n c : Nat) (l : List Nat) : Prop := Bs W (.slice a n c) l ∧ n ≤ c ∧ (a = none → c = 0)
/-- a slice of numbers that reads as l -/
def Is (w : World) (v : Value) (l : List Int) : Prop :=
  ∃ a c, v = .slice a l.length c ∧ (∀ n ∈ l, (Lit.int .i64 n).wf = true) ∧ (l ≠ [] → ∃ b o, a = some ⟨b, o, none⟩ ∧ ∀ i, i < l.length → w.cell? ⟨b, o + i, none⟩ = some (.int .i64 (l.getD i 0)))
/-- a slice of pieces that came in -/
def Pcn (W : World) (a : Option Addr) (n c : Nat) (ps : List (Int × Sl)) (D : Nat → List Nat) : Prop :=
  Ps W (.slice a n c) ps ∧ n ≤ c ∧ (a = none → c = 0) ∧ ∀ i, (h : i < ps.length) → (Lit.int .i64 ps[i].1).wf = true ∧ By W ps[i].2.1 ps[i].2.2.1 ps[i].2.2.2 (D i)

theorem add_none (b o i : Nat) : (⟨b, o, none⟩ : Addr).add i = ⟨b, o + i, none⟩ := by unfold Addr.add; split <;> simp_all

section
variable {H : Type} {enc : TypeId × Value → H} {W : World}

theorem open_by {fuel : Nat} {cs : List Value} {x : DataW H × List MemPlace} (h : DataW.trod enc Tryd.prog W 0 (fun _ => true) true fuel 22 cs = some x) : ∃ a n c l, cs = [.slice a n c] ∧ By W a n c l := by
  rcases open_ints Tryd.underlying22 Tryd.underlying5 (by kernel_rfl) h with ⟨hcs, _⟩ | ⟨a, l, c, zs, hcs, _, hl, hm, hz, _, hcell, hwz⟩
  · exact ⟨none, 0, 0, [], hcs, bs_nil W, Nat.le_refl _, fun _ => rfl⟩
  · exact ⟨some a, l, c, _, hcs, bs_of_ints hl (by simpa using hz) hcell hwz, hl, fun h => by cases h⟩
theorem open_is {fuel : Nat} {cs : List Value} {x : DataW H × List MemPlace} (h : DataW.trod enc Tryd.prog W 0 (fun _ => true) true fuel 29 cs = some x) : ∃ a n c l, cs = [.slice a n c] ∧ Is W (.slice a n c) l ∧ n ≤ c ∧ (a = none → c = 0) := by
  rcases open_ints Tryd.underlying29 Tryd.underlying3 (by kernel_rfl) h with ⟨hcs, _⟩ | ⟨a, len, c, zs, hcs, _, hl, hm, hz, _, hcell, hwz⟩
  · exact ⟨none, 0, 0, [], hcs, ⟨none, 0, rfl, fun n h => absurd h List.not_mem_nil, fun h => absurd rfl h⟩, Nat.le_refl _, fun _ => rfl⟩
  · have hz' : zs.length = c := by simpa using hz
    have hlen : (zs.take len).length = len := by simp; omega
    refine ⟨some a, len, c, zs.take len, hcs, ⟨some a, c, by rw [hlen], fun n hn => hwz n (List.mem_of_mem_take hn), fun hne => ?_⟩, hl, fun h => by cases h⟩
    have h0 : 0 < len := by
      rcases Nat.eq_zero_or_pos len with h | h
      · subst h; exact absurd rfl hne
      · exact h
    obtain ⟨b, o, spot⟩ := a
    have hc := hcell 0 (by omega)
    have hspot : spot = none := by simpa [Addr.add] using World.cell?_spot hc
    subst hspot
    refine ⟨b, o, rfl, fun i hi => ?_⟩
    rw [hlen] at hi
    have h1 := hcell i (by omega)
    rw [add_none] at h1
    rw [h1, List.getD_eq_getElem?_getD, List.getD_eq_getElem?_getD, List.getElem?_take_of_lt hi]

theorem open_pcn {fuel : Nat} {cs : List Value} {x : DataW H × List MemPlace} (h : DataW.trod enc Tryd.prog W 0 (fun _ => true) true fuel 28 cs = some x) : ∃ a n c ps D, cs = [.slice a n c] ∧ Pcn W a n c ps D := by
  rcases Deep.open_slice_pairs Tryd.underlying28 Tryd.underlying44 (by kernel_rfl) rfl rfl (by kernel_rfl) (by kernel_rfl) h with ⟨hcs, _⟩ | ⟨a, len, cap, m, n, V0, V1, D0, D1, P0, P1, hcs, _, hl, _, hm, _, hx⟩
  · exact ⟨none, 0, 0, [], fun _ => [], hcs, ⟨none, 0, rfl, fun h => absurd rfl h⟩, Nat.le_refl _, fun _ => rfl, fun i h => absurd h (Nat.not_lt_zero _)⟩
  · have hm' : m = cap := by simpa using hm
    have each : ∀ i, i < len → ∃ q : (Int × Sl) × List Nat, V0 i = .int .i64 q.1.1 ∧ V1 i = .slice q.1.2.1 q.1.2.2.1 q.1.2.2.2 ∧ (Lit.int .i64 q.1.1).wf = true ∧ By W q.1.2.1 q.1.2.2.1 q.1.2.2.2 q.2 := fun i hi => by
      obtain ⟨_, _, h0, h1⟩ := hx i (by omega)
      obtain ⟨y, e0, _, hwf⟩ := DataW.trod_int Tryd.underlying3 h0
      obtain ⟨a', n', c', l', e1, hb⟩ := open_by h1
      simp only [List.cons.injEq, and_true] at e0 e1
      exact ⟨((y, a', n', c'), l'), e0, e1, hwf, hb⟩
    obtain ⟨q, hq⟩ := Deep.choose_lt each
    have hlen : ((List.range len).map fun i => (q i).1).length = len := by simp
    refine ⟨some a, len, cap, (List.range len).map fun i => (q i).1, fun i => (q i).2, hcs, ⟨some a, cap, by rw [hlen], fun hne => ?_⟩, hl, fun h => (by cases h), fun i hi => ?_⟩
    · have h0 : 0 < len := by
        rcases Nat.eq_zero_or_pos len with h | h
        · subst h; exact absurd rfl hne
        · exact h
      obtain ⟨b, o, spot⟩ := a
      obtain ⟨hc, _⟩ := hx 0 (by omega)
      have hspot : spot = none := by simpa [Addr.add] using World.cell?_spot hc
      subst hspot
      refine ⟨b, o, rfl, fun i hi => ?_⟩
      rw [hlen] at hi
      obtain ⟨h1, h2, _⟩ := hx i (by omega)
      rw [add_none] at h1 h2
      obtain ⟨e0, e1, _⟩ := hq i hi
      rw [e0] at h1
      rw [e1] at h2
      simpa using ⟨h1, h2⟩
    · rw [hlen] at hi
      obtain ⟨_, _, h2, h3⟩ := hq i hi
      simpa using ⟨h2, h3⟩
end
end Go.Proofs.YtehjikogdaclgaaDoor

namespace Go.Proofs.YtehjikogdaclgaaDoor
open Go.ChangeShapes Go.WideShapes Go.ChangeAt Go.RowKit
set_option linter.unusedVariables false

/-- a slice of bytes that came in -/
def ByD (W : World) (a : Option Addr) (n c : Nat) (l : List Nat) : Prop := Bs W (.slice a n c) l ∧ n ≤ c ∧ (a = none → c = 0)
theorem add_noneD (b o i : Nat) : (⟨b, o, none⟩ : Addr).add i = ⟨b, o + i, none⟩ := by unfold Addr.add; split <;> simp_all

section
variable {H : Type} {enc : TypeId × Value → H} {W : World}

theorem open_byD {fuel : Nat} {cs : List Value} {x : DataW H × List MemPlace} (h : DataW.trod enc Tryd.prog W 0 (fun _ => true) true fuel 22 cs = some x) : ∃ a n c l, cs = [.slice a n c] ∧ ByD W a n c l := by
  rcases open_ints Tryd.underlying22 Tryd.underlying5 (by kernel_rfl) h with ⟨hcs, _⟩ | ⟨a, l, c, zs, hcs, _, hl, hm, hz, _, hcell, hwz⟩
  · exact ⟨none, 0, 0, [], hcs, bs_nil W, Nat.le_refl _, fun _ => rfl⟩
  · exact ⟨some a, l, c, _, hcs, bs_of_ints hl (by simpa using hz) hcell hwz, hl, fun h => by cases h⟩


/-- a piece that came in -/
def PieceW (W : World) (v : Value) : Prop := ∃ (x : Int) (a : Option Addr) (n c : Nat) (l : List Nat), v = .agg #[.int .i64 x, .slice a n c] ∧ (Lit.int .i64 x).wf = true ∧ ByD W a n c l
set_option maxRecDepth 100000 in
theorem open_piece {base : Nat} {v : Value} {d : DataW H} {p : List MemPlace} (hval : Value.okWide Tryd.prog W .any base 44 v) (h : DataW.Trod enc Tryd.prog W 0 (fun _ => true) true 44 v d p) : PieceW W v := by
  obtain ⟨cs, rfl, hsz⟩ := okWide_struct Tryd.underlying44 hval
  rw [show Tryd.prog.cellsOf 44 = 2 from by kernel_rfl] at hsz
  obtain ⟨l⟩ := cs
  match l, hsz with
  | [c0, c1], _ =>
  obtain ⟨fuel, hf⟩ := h
  obtain ⟨xs, n, rfl, _, _, hxl, hg⟩ := DataW.trod_struct Tryd.underlying44 hf
  have e3 : Tryd.prog.cellsOf 3 = 1 := by kernel_rfl
  have e27 : Tryd.prog.cellsOf 22 = 1 := by kernel_rfl
  match xs, hxl with
  | [y0, y1], _ =>
  have g0 := hg 0 _ rfl
  have g1 := hg 1 _ rfl
  simp [Value.cells, e3, e27] at g0 g1
  obtain ⟨x, f0, _, w0⟩ := DataW.trod_int Tryd.underlying3 g0
  obtain ⟨a, n', c, l', f1, hd⟩ := open_byD g1
  simp only [List.cons.injEq, and_true] at f0 f1
  refine ⟨x, a, n', c, l', ?_, w0, hd⟩
  rw [f0, f1]
end
end Go.Proofs.YtehjikogdaclgaaDoor

namespace Go.Proofs.YtehjikogdaclgaaDoor
open Go Go.RowKit
set_option linter.unusedVariables false

theorem eqItems_sameD (d : Nat) (l : List Nat) (w : World) : ∀ is : List Nat, (∀ i ∈ is, i < l.length) → (Op.eqItems (d + 1) 5 1 (u8s l).toArray (u8s l).toArray is).run Tryd.prog w = .ok true w
  | [], _ => by simp [Op.eqItems]
  | i :: is, h => by
    have hi := h i (by simp)
    have hg : (u8s l).toArray[i * 1]? = some (.int .u8 ((l.getD i 0 : Nat) : Int)) := by
      simp [u8s, hi]
    have hp := run_part_plain (P := Tryd.prog) w (e := 5) (by kernel_rfl) hg
    have he := run_equalIn_int (P := Tryd.prog) w d 5 .u8 .u8 ((l.getD i 0 : Nat) : Int) ((l.getD i 0 : Nat) : Int) Tryd.underlying5
    have ih := eqItems_sameD d l w is (fun j hj => h j (by simp [hj]))
    simp only [Op.eqItems, Sem.run_bind, hp, he, Result.andThen_ok, beq_self_eq_true, Bool.not_true, Bool.false_eq_true, if_false, ih]
theorem eql_sameD (l : List Nat) (h : l.length = 32) (w : World) : (Op.equalIn 10000 24 (.agg (u8s l).toArray) (.agg (u8s l).toArray)).run Tryd.prog w = .ok true w := by
  have hi0 : (Tryd.prog.info? 5).map (·.size) = some 1 := by kernel_rfl
  obtain ⟨i, hi, _⟩ := Option.map_eq_some_iff.1 hi0
  have hc : Tryd.prog.cellsOf 5 = 1 := by kernel_rfl
  rw [show (10000 : Nat) = 9999 + 1 from rfl, run_equalIn_array w 9999 _ _ Tryd.underlying24 hi, hc]
  have hr : ∀ j ∈ List.range 32, j < l.length := fun j hj => by
    have h9 : j < 32 := List.mem_range.1 hj
    rw [h]
    exact h9
  exact eqItems_sameD 9998 l w (List.range 32) hr
theorem wpList_guarded {P : Program} {ops : Array Oper} {rest : List Oper} {o : Oper} {a : Act} {w : World} {Q : Exit → Act → World → Prop} (hw : Region.wanted o (yielded ops a.tmps) = true) (h : wpList P ops Q ({ o with guard := none } :: rest) a w) : wpList P ops Q (o :: rest) a w := by
  unfold wpList at h ⊢
  rw [if_pos hw]
  rw [if_pos (show Region.wanted { o with guard := none } (yielded ops a.tmps) = true from rfl)] at h
  cases o
  exact h
theorem wpList_cloneG {w : World} {ops : Array Oper} {rest : List Oper} {o : Oper} {a : Act} {Q : Exit → Act → World → Prop} (hw : Region.wanted o (yielded ops a.tmps) = true) (s x : Operand)
    (ho : o.op = .call { callee := .builtin .append, args := #[s, x], argTypes := #[22, 22] }) (g0 : Nat) (hs : a.eval s = .slice (some ⟨g0, 0, none⟩) 0 0) (hg0 : w.heap[g0]? = some (.cells #[] 5 (0, 0)))
    (sa : Option Addr) (m c : Nat) (l : List Nat) (hx : a.eval x = .slice sa m c) (hb : Bs w (.slice sa m c) l) (hnil : sa = none → c = 0) (hm : m ≤ 4611686018427)
    (h : ∀ a' c' w', Bs w' (.slice a' m c') l → m ≤ c' → (∀ ad, a' = some ad → g0 ≤ ad.block ∧ ad.block < w'.heap.size) → (a' = none → c' = 0) → Kept g0 w w' → w'.ownsRow g0 5 1 (.slice a' m c') m (u8s l) → wpList Tryd.prog ops Q rest (a.put o.dst (.slice a' m c')) w') :
    wpList Tryd.prog ops Q (o :: rest) a w :=
  wpList_guarded hw (wpList_cloneB (o := { o with guard := none }) rfl s x ho g0 hs hg0 sa m c l hx hb hnil hm h)
end Go.Proofs.YtehjikogdaclgaaDoor
