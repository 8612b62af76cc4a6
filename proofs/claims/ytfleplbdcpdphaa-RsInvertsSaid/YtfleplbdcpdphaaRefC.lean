/-
  The reference's first, weights and mix.
-/
import Derived.Test.YtfleplbdcpdphaaPiece
import Derived.Test.YtfleplbdcpdphaaRefF
import Derived.Test.YtfleplbdcpdphaaApp
namespace Go.Proofs.Ytfleplbdcpdphaa
open Go.RowKit

theorem cell_of_new (w : World) (x : Value) (t : TypeId) : ∀ (j : Nat) (u : Value), [x][j]? = some u → (w.alloc (.cells #[x] t)).cell? ((⟨w.heap.size, 0, none⟩ : Addr).add j) = some u := by
  intro j u h
  cases j with
  | zero =>
    simp at h
    subst h
    show (w.alloc (.cells #[x] t)).cell? ⟨w.heap.size, 0, none⟩ = some x
    simp
  | succ j => simp at h
theorem u8s_snoc (l : List Nat) (n : Nat) : u8s l ++ [.int .u8 (n : Int)] = u8s (l ++ [n]) := by simp [u8s]

set_option maxRecDepth 100000 in
set_option maxHeartbeats 1000000 in
theorem first_any (k : Nat) (hk : k ≤ 255) (w : World) :
    Calls Try.prog 81 #[.int .i64 k] w fun e w' => ∃ a c, e = .returned (.slice a k c) ∧ Bs w' (.slice a k c) (List.range k) ∧ Below w.heap.size w w' := by
  obtain ⟨i0, hi, hz0, hz1, hz2⟩ := info_parts info5
  have hown : (w.alloc (.cells #[] 5)).ownsRow w.heap.size 5 1 (.slice (some ⟨w.heap.size, 0, none⟩) 0 0) 0 (u8s (List.range 0)) := ⟨rfl, .inr ⟨w.heap.size, 0, #[], rfl, Nat.le_refl _, heap_new _ _, Nat.le_refl _, Nat.zero_le _, rfl, rfl⟩⟩
  have hb : Below w.heap.size w (w.alloc (.cells #[] 5)) := (Below.refl _ _).alloc (Nat.le_refl _) _
  go_enter Try.func81, Try.ntmps81
  go_wp2
  go_loopw [3, 4] (fun v iv wr => ∃ i : Nat, i ≤ k ∧ iv = .int .i64 i ∧ wr.ownsRow w.heap.size 5 1 v i (u8s (List.range i)) ∧ Below w.heap.size w wr) (fun _ iv _ => k - (intOf iv).toNat)
  case atStart => exact ⟨0, by omega, rfl, hown, hb⟩
  case round =>
    clear hown hb
    obtain ⟨i, hi', rfl, hown, hb⟩ := hrel
    by_cases hlt : i < k
    · have hown1 := hown.alloc (.cells #[.int .u8 (i : Int)] 5)
      have hsz := hb.size
      go_wp2_with (refine wpList_append_own _ rfl (.tmp 11) (.tmp 14) _ rfl w.heap.size 5 i0 (.int .u8 0) 1 1 Try.underlying27 hi hz0 hz1 hz2 rfl (by decide) _ i (u8s (List.range i)) rfl hown1 ⟨wr.heap.size, 0, none⟩ 1 1 [.int .u8 (i : Int)] rfl rfl ?hnews ?hone (by unfold maxLen; omega) (by omega) (by simp; omega) ?_)
      case hnews => exact cell_of_new _ _ _
      case hone => intro u hu; simp only [List.mem_singleton] at hu; subst hu; rfl
      intro v' w2 hown2 hg2 _
      rw [u8s_snoc, ← List.range_succ] at hown2
      have hb2 : Below w.heap.size w w2 := (hb.alloc hsz _).grown hg2 (by simp; omega) (fun g hg => by
        obtain ⟨_, h2⟩ := hown1
        rcases h2 with ⟨h3, _⟩ | ⟨g', cap, cur, h3, h4, _⟩
        · subst h3; cases hg
        · subst h3; simp [Value.ownBlock] at hg; omega)
      clear hown hown1 hb hg2
      go_wp2
      go_roundw
      case rel => exact ⟨i + 1, by omega, by go_num, hown2, hb2⟩
      case measure => simp [intOf]; omega
    · obtain rfl : i = k := by omega
      obtain ⟨a, c, rfl, hm1, hm2, hbs, hm3⟩ := bs_of_owns hown (fun n hn => by have := List.mem_range.1 hn; omega)
      clear hown hm1 hm2 hm3
      go_wp2
      go_ret
      exact ⟨a, c, rfl, hbs, hb⟩

/-- the factors of the reference's product below -/
def bnTo (l : List Nat) (x i : Nat) : Nat → Nat
  | 0 => x ^^^ l.getD i 0
  | j + 1 => if j ≠ i then Gf.tm (bnTo l x i j) (l.getD i 0 ^^^ l.getD j 0) else bnTo l x i j
theorem bnTo_lt (l : List Nat) (hl : ∀ i, l.getD i 0 < 256) (x : Nat) (hx : x < 256) (i : Nat) : ∀ j, bnTo l x i j < 256
  | 0 => Gf.xor_lt hx (hl i)
  | j + 1 => by
    unfold bnTo
    split
    · exact Gf.tm_lt _ _ (bnTo_lt l hl x hx i j)
    · exact bnTo_lt l hl x hx i j
theorem bnTo_eq (l : List Nat) (hl : ∀ i, l.getD i 0 < 256) (x : Nat) (hx : x < 256) (i : Nat) : ∀ j, bnTo l x i j = Gf.tm (x ^^^ l.getD i 0) (pnTo l i j)
  | 0 => (Gf.tm_one_right _ (Gf.xor_lt hx (hl i))).symm
  | j + 1 => by
    unfold bnTo pnTo
    by_cases h : j = i
    · rw [if_neg (by simp [h]), if_neg (by simp [h]), bnTo_eq l hl x hx i j]
    · rw [if_pos h, if_pos (fun e => h e.symm), bnTo_eq l hl x hx i j, Gf.tm_assoc _ _ _ (Gf.xor_lt hx (hl i)) (pnTo_lt l hl i j) (Gf.xor_lt (hl i) (hl j))]
theorem iv_tm (a b : Nat) (ha : a < 256) (hb : b < 256) (a0 : a ≠ 0) (b0 : b ≠ 0) : Gf.iv (Gf.tm a b) = Gf.tm (Gf.iv a) (Gf.iv b) := by
  refine (Gf.iv_unique _ _ (Gf.tm_lt _ _ ha) (Gf.tm_lt _ _ (Gf.iv_lt a)) ?_).symm
  have h1 := Gf.iv_lt a
  have h2 := Gf.iv_lt b
  rw [Gf.tm_assoc a b _ ha hb (Gf.tm_lt _ _ h1), Gf.tm_comm b _ hb (Gf.tm_lt _ _ h1), Gf.tm_assoc _ _ b h1 h2 hb, Gf.tm_comm (Gf.iv b) b h2 hb, Gf.tm_iv b hb b0, Gf.tm_one_right _ h1, Gf.tm_iv a ha a0]
/-- the reference's weight -/
theorem rwt_eq (l : List Nat) (hl : ∀ i, l.getD i 0 < 256) (hd : l.Nodup) (x : Nat) (hx : x < 256) (i : Nat) (hi : i < l.length) (hxi : x ≠ l.getD i 0) : Gf.tm (pxTo l x l.length) (Gf.iv (bnTo l x i l.length)) = wt l (scales l) x i := by
  have h1 := Gf.xor_lt hx (hl i)
  have h2 := pnTo_lt l hl i l.length
  have h3 := pnTo_pos l hl hd i hi l.length (Nat.le_refl _)
  have h4 := xor_ne hxi
  unfold wt
  rw [bnTo_eq l hl x hx, iv_tm _ _ h1 h2 h4 h3, scales_getD l i hi]
  unfold scale
  rw [Gf.tm_assoc _ _ _ (pxTo_lt l x _) (Gf.iv_lt _) (Gf.iv_lt _)]

theorem Over_nz (x : Nat) (hx : x < 256) (h0 : x ≠ 0) (w : World) :
    Calls Try.prog 49 #[.int .u8 x] w fun e w' => e = .returned (.int .u8 (Gf.iv x)) ∧ w = w' := by
  have h := Over_any x hx w
  rwa [if_neg h0] at h

set_option maxRecDepth 100000 in
set_option maxHeartbeats 4000000 in
theorem rweights_any (a : Option Addr) (n c : Nat) (l : List Nat) (x : Nat) (hx : x < 256) (w : World) (hl : Bs w (.slice a n c) l) (hn : n ≤ 256) (hd : l.Nodup) :
    Calls Try.prog 80 #[.slice a n c, .int .u8 x] w fun e w' => ∃ ob, w.heap.size ≤ ob ∧ e = .returned (.slice (some ⟨ob, 0, none⟩) n n) ∧ Own w' ob (wts l (scales l) x) ∧ Below w.heap.size w w' := by
  have HNL := hid hl.len
  have HLT := hid hl.lt
  have HD := hid hd
  clear hd
  have hmk := mk_u8 n (by omega)
  have ho := own_zrow w n
  have hb : Below w.heap.size w (w.alloc (zrow n)) := (Below.refl _ _).alloc (Nat.le_refl _) _
  have hl1 := hl.below hb
  go_enter Try.func80, Try.ntmps80
  go_wp2
  clear hmk
  go_loop [6] (fun iv => ∃ i : Nat, i ≤ n ∧ iv = .int .i64 i ∧ Hid (∀ j, j < i → l.getD j 0 ≠ x)) (fun iv => n - (intOf iv).toNat)
  case atStart => exact ⟨0, by omega, rfl, fun j hj => absurd hj (Nat.not_lt_zero _)⟩
  case round =>
    obtain ⟨i, hi, rfl, HNE⟩ := hrel
    by_cases hlt : i < n
    · rcases hl1.addr with ⟨h0, _⟩ | ⟨h0, b, o, c', hv⟩
      · exfalso; have := HNL.out; rw [h0] at this; simp at this; omega
      · simp only [Value.slice.injEq] at hv
        obtain ⟨rfl, hnn, hcc⟩ := hv
        clear hnn hcc h0
        have hc := hl1.cell i (by rw [← HNL.out]; exact hlt)
        have hcl := HLT.out i
        by_cases hix : l.getD i 0 = x
        · have hwt : wts l (scales l) x = (List.replicate n 0).set i 1 := by
            have hil : i < l.length := by rw [← HNL.out]; exact hlt
            have hm : x ∈ l := by
              rw [← hix, List.getD_eq_getElem?_getD, List.getElem?_eq_getElem hil]; exact List.getElem_mem _
            have hidx : l.idxOf x = i := by
              have h1 := List.idxOf_lt_length_of_mem hm
              have h2 : l.getD (l.idxOf x) 0 = x := by
                rw [List.getD_eq_getElem?_getD, List.getElem?_eq_getElem h1]; exact List.getElem_idxOf h1
              by_cases e : l.idxOf x = i
              · exact e
              · exact absurd (h2.trans hix.symm) (nodup_getD HD.out h1 hil e)
            unfold wts
            rw [if_pos hm, hidx, ← HNL.out]
          have t1 : (((l.getD i 0 : Nat) : Int) == (x : Int)) = true := by rw [hix]; simp
          have HW := hid hwt
          clear hwt hix
          generalize l.getD i 0 = p at *
          have co := ho.cell i (by simpa using hlt)
          have fo := ho.free i
          go_wp2
          go_ret
          exact ⟨w.heap.size, Nat.le_refl _, rfl, by rw [HW.out]; exact ho.set i 1, hb.setCell (Nat.le_refl _) _⟩
        · have t1 : (((l.getD i 0 : Nat) : Int) == (x : Int)) = false := by rw [beq_eq_false_iff_ne]; exact fun h => hix (by omega)
          have hne2 : ∀ j, j < i + 1 → l.getD j 0 ≠ x := fun j hj => by
            by_cases e : j = i
            · rw [e]; exact hix
            · exact HNE.out j (by omega)
          have HNE2 := hid hne2
          clear hne2 hix
          generalize l.getD i 0 = p at *
          go_wp2
          exact ⟨⟨i + 1, by omega, by go_num, HNE2⟩, by simp [intOf]; omega⟩
    · obtain rfl : i = n := by omega
      have hwt : wts l (scales l) x = upTo i (wt l (scales l) x) i := by
        have hm : ¬ x ∈ l := fun hm => by
          have h1 := List.idxOf_lt_length_of_mem hm
          have h2 : l.getD (l.idxOf x) 0 = x := by
            rw [List.getD_eq_getElem?_getD, List.getElem?_eq_getElem h1]; exact List.getElem_idxOf h1
          exact HNE.out _ (by rw [HNL.out]; exact h1) h2
        unfold wts
        rw [if_neg hm, upTo_all, HNL.out]
      have HW := hid hwt
      rw [← upTo_zero i (wt l (scales l) x)] at ho
      clear hwt
      go_wp2
      go_loop [7, 8] (fun p iv => ∃ m : Nat, m ≤ i ∧ iv = .int .i64 m ∧ p = .int .u8 (pxTo l x m)) (fun _ iv => i - (intOf iv).toNat)
      case atStart => exact ⟨0, by omega, rfl, rfl⟩
      case round =>
        obtain ⟨m, hm, rfl, rfl⟩ := hrel
        by_cases hlt : m < i
        · rcases hl1.addr with ⟨h0, _⟩ | ⟨h0, b, o, c', hv⟩
          · exfalso; have := HNL.out; rw [h0] at this; simp at this; omega
          · simp only [Value.slice.injEq] at hv
            obtain ⟨rfl, hnn, hcc⟩ := hv
            clear hnn hcc h0
            have hc := hl1.cell m (by rw [← HNL.out]; exact hlt)
            have hcl := HLT.out m
            have hpl := pxTo_lt l x m
            have hst : pxTo l x (m + 1) = Gf.tm (pxTo l x m) (x ^^^ l.getD m 0) := rfl
            have HS := hid hst
            clear hst
            generalize l.getD m 0 = pm at *
            have hxi := u8_xor_nat x pm hx hcl
            have hxl := Gf.xor_lt hx hcl
            generalize x ^^^ pm = xx at *
            generalize pxTo l x m = pp at *
            go_wp2_with (go_at_call 48; refine (Times_any pp xx hpl hxl _).mono ?_; rintro e w' ⟨rfl, rfl⟩)
            exact ⟨⟨m + 1, by omega, by go_num, by rw [HS.out]⟩, by simp [intOf]; omega⟩
        · obtain rfl : m = i := by omega
          have hpx := pxTo_lt l x m
          have hpe : ∀ j, j < m → Gf.tm (pxTo l x m) (Gf.iv (bnTo l x j m)) = wt l (scales l) x j := fun j hj => by
            have h5 := rwt_eq l HLT.out HD.out x hx j (by rw [← HNL.out]; exact hj) (fun e => HNE.out j hj e.symm)
            rwa [← HNL.out] at h5
          have HPE := hid hpe
          clear hpe
          generalize pxTo l x m = pp at *
          go_wp2
          go_loopw [9, 10, 11] (fun iv _ _ wr => ∃ j : Nat, j ≤ m ∧ iv = .int .i64 j ∧ Own wr w.heap.size (upTo m (wt l (scales l) x) j) ∧ Below w.heap.size w wr) (fun iv _ _ _ => m - (intOf iv).toNat)
          case atStart => exact ⟨0, by omega, rfl, ho, hb⟩
          case round =>
            clear ho hb hl1
            obtain ⟨j, hj, rfl, ho, hb⟩ := hrel
            obtain ⟨wo, rfl⟩ : ∃ wo : World, wo = wr := ⟨_, rfl⟩
            by_cases hlt2 : j < m
            · have hl2 := hl.below hb
              rcases hl2.addr with ⟨h0, _⟩ | ⟨h0, b, o, c', hv⟩
              · exfalso; have := HNL.out; rw [h0] at this; simp at this; omega
              · simp only [Value.slice.injEq] at hv
                obtain ⟨rfl, hnn, hcc⟩ := hv
                clear hnn hcc h0
                have hc := hl2.cell j (by rw [← HNL.out]; exact hlt2)
                have hcl := HLT.out j
                have hxi := u8_xor_nat x (l.getD j 0) hx hcl
                have hbn0 : bnTo l x j 0 = x ^^^ l.getD j 0 := rfl
                rw [← hbn0] at hxi
                have hbl := bnTo_lt l HLT.out x hx j
                have HBL := hid hbl
                clear hbl hbn0
                generalize hpj : l.getD j 0 = pj at *
                have HPJ := hid hpj
                clear hpj
                go_wp2
                go_loopw [10, 11] (fun p iv wr => ∃ q : Nat, q ≤ m ∧ iv = .int .i64 q ∧ p = .int .u8 (bnTo l x j q) ∧ ∃ dr, Hid (wr = wo.drewN dr)) (fun _ iv _ => m - (intOf iv).toNat)
                case atStart => exact ⟨0, by omega, rfl, rfl, 0, rfl⟩
                case round =>
                  obtain ⟨q, hq, rfl, rfl, dr, hw⟩ := hrel
                  have hw' := hw.out
                  by_cases hlt3 : q < m
                  · by_cases hqj : q = j
                    · have hb1 : ((q : Int) != (j : Int)) = false := by simp [hqj]
                      have hst : bnTo l x j (q + 1) = bnTo l x j q := by
                        show (if q ≠ j then _ else _) = _
                        rw [if_neg (by simp [hqj])]
                      have HST := hid hst
                      clear hst hqj hw'
                      go_wp2
                      go_roundw
                      case rel => exact ⟨q + 1, by omega, by go_num, by rw [HST.out], dr, hw⟩
                      case measure => simp [intOf]; omega
                    · have hb1 : ((q : Int) != (j : Int)) = true := by simp; omega
                      have hst : bnTo l x j (q + 1) = Gf.tm (bnTo l x j q) (pj ^^^ l.getD q 0) := by
                        show (if q ≠ j then _ else _) = _
                        rw [if_pos hqj, HPJ.out]
                      have HST := hid hst
                      have hl3 : Bs wr (.slice (some ⟨b, o, none⟩) m c) l := by rw [hw']; exact hl2.drewN dr
                      have hcj : wr.cell? ⟨b, o + j, none⟩ = some (.int .u8 (pj : Int)) := by rw [hw']; exact hc
                      have hcq := hl3.cell q (by rw [← HNL.out]; exact hlt3)
                      have hql := HLT.out q
                      have hbq := HBL.out q
                      clear hst hqj hw'
                      generalize l.getD q 0 = pq at *
                      have hxi2 := u8_xor_nat pj pq hcl hql
                      have hxl2 := Gf.xor_lt hcl hql
                      generalize bnTo l x j q = bb at *
                      go_wp2
                      go_quiet ((go_at_call 48; exact Calls.quiet_of_same ((Times_any bb _ hbq hxl2 _).mono fun e w' h => ⟨h.1, h.2.symm⟩)))
                      go_wp2
                      go_roundw
                      case rel => exact ⟨q + 1, by omega, by go_num, by rw [HST.out], dr + nq, by rw [hw.out, World.drewN_drewN]; exact hid rfl⟩
                      case measure => simp [intOf]; omega
                  · obtain rfl : q = m := by omega
                    have hbq := HBL.out q
                    have hb0 : bnTo l x j q ≠ 0 := by
                      rw [bnTo_eq l HLT.out x hx]
                      exact Gf.tm_pos _ _ (Gf.xor_lt hx (HLT.out j)) (pnTo_lt l HLT.out j q) (xor_ne (fun e => HNE.out j hlt2 e.symm)) (pnTo_pos l HLT.out HD.out j (by rw [← HNL.out]; exact hlt2) q (by rw [HNL.out]; exact Nat.le_refl _))
                    have hwj := HPE.out j hlt2
                    have HWJ := hid hwj
                    have HB0 := hid hb0
                    clear hwj hb0
                    have ho' : Own wr w.heap.size (upTo q (wt l (scales l) x) j) := by rw [hw']; exact ho.drewN dr
                    have hbr : Below w.heap.size w wr := by rw [hw']; exact bel_drewN hb dr
                    have co := ho'.cell j (by rw [upTo_length]; exact hlt2)
                    have fo := ho'.free j
                    have hil := Gf.iv_lt (bnTo l x j q)
                    generalize bnTo l x j q = bb at *
                    clear hw'
                    go_wp2_with fail
                    refine (Over_nz bb hbq HB0.out _).mono ?_
                    rintro e w' ⟨rfl, rfl⟩
                    go_wp2_with fail
                    refine (Times_any pp (Gf.iv bb) hpx hil _).mono ?_
                    rintro e w' ⟨rfl, rfl⟩
                    go_wp2
                    refine ⟨⟨j + 1, by omega, by go_num, ?_, hbr.setCell (Nat.le_refl _) _⟩, by simp [intOf]; omega⟩
                    rw [← upTo_set, ← HWJ.out]
                    exact ho'.set j _
            · obtain rfl : j = m := by omega
              go_wp2
              go_ret
              exact ⟨w.heap.size, Nat.le_refl _, rfl, by rw [HW.out]; exact ho, hb⟩
end Go.Proofs.Ytfleplbdcpdphaa
