/-
  The reference's first, weights and mix. · The reference's mix: the sum of the pieces' data times the weights. · The reference's Split: all pieces of an object. · SamePieces of the reference, where the two lists are the same. · Make and the reference's Make where they refuse. · The reference's Make.
-/
import Derived.Test.YtafkjfpmjhfofaaDoorPiece
import Derived.Test.YtafkjfpmjhfofaaDoorRefF
import Derived.Test.YtafkjfpmjhfofaaDoorApp
import Derived.Test.YtafkjfpmjhfofaaDoorQT
import Derived.Test.YtafkjfpmjhfofaaDoorCopyP
import Derived.Test.YtafkjfpmjhfofaaDoorSize
import Derived.Test.YtafkjfpmjhfofaaDoorSizeR
import Derived.Deep.RegionLaw
import Derived.Test.YtafkjfpmjhfofaaDoorStr
import Derived.Test.YtafkjfpmjhfofaaDoorOwMn
import Derived.Test.YtafkjfpmjhfofaaDoorRva
import Derived.Test.YtafkjfpmjhfofaaDoorVals
import Derived.Test.YtafkjfpmjhfofaaDoorMake
import Derived.Test.YtafkjfpmjhfofaaDoorRsha
import Derived.Deep.AppendLies
namespace Go.Proofs.YtafkjfpmjhfofaaDoor
open Go.RowKit

theorem cell_of_new (w : World) (x : Value) (t : TypeId) : ∀ (j : Nat) (u : Value), [x][j]? = some u → (w.alloc (.cells #[x] t)).cell? ((⟨w.heap.size, 0, none⟩ : Addr).add j) = some u := by
  intro j u h
  cases j with
  | zero =>
    simp at h
    subst h
    show (w.alloc (.cells #[x] t)).cell? ⟨w.heap.size, 0, none⟩ = some x
    simp
  | succ j => simp at h
theorem u8s_snoc (l : List Nat) (n : Nat) : u8s l ++ [.int .u8 (n : Int)] = u8s (l ++ [n]) := by simp [u8s]

set_option maxRecDepth 100000 in
set_option maxHeartbeats 1000000 in
theorem first_any (k : Nat) (hk : k ≤ 255) (w : World) :
    Calls Tryd.prog 69 #[.int .i64 k] w fun e w' => ∃ a c, e = .returned (.slice a k c) ∧ Bs w' (.slice a k c) (List.range k) ∧ Below w.heap.size w w' := by
  obtain ⟨i0, hi, hz0, hz1, hz2⟩ := info_parts info5
  have hown : (w.alloc (.cells #[] 5)).ownsRow w.heap.size 5 1 (.slice (some ⟨w.heap.size, 0, none⟩) 0 0) 0 (u8s (List.range 0)) := ⟨rfl, .inr ⟨w.heap.size, 0, #[], rfl, Nat.le_refl _, heap_new _ _, Nat.le_refl _, Nat.zero_le _, rfl, rfl⟩⟩
  have hb : Below w.heap.size w (w.alloc (.cells #[] 5)) := (Below.refl _ _).alloc (Nat.le_refl _) _
  go_enter Tryd.func69, Tryd.ntmps69
  go_wp2
  go_loopw [3, 4] (fun v iv wr => ∃ i : Nat, i ≤ k ∧ iv = .int .i64 i ∧ wr.ownsRow w.heap.size 5 1 v i (u8s (List.range i)) ∧ Below w.heap.size w wr) (fun _ iv _ => k - (intOf iv).toNat)
  case atStart => exact ⟨0, by omega, rfl, hown, hb⟩
  case round =>
    clear hown hb
    obtain ⟨i, hi', rfl, hown, hb⟩ := hrel
    by_cases hlt : i < k
    · have hown1 := hown.alloc (.cells #[.int .u8 (i : Int)] 5)
      have hsz := hb.size
      go_wp2_with (refine wpList_append_own _ rfl (.tmp 11) (.tmp 14) _ rfl w.heap.size 5 i0 (.int .u8 0) 1 1 Tryd.underlying22 hi hz0 hz1 hz2 rfl (by decide) _ i (u8s (List.range i)) rfl hown1 ⟨wr.heap.size, 0, none⟩ 1 1 [.int .u8 (i : Int)] rfl rfl ?hnews ?hone (by unfold maxLen; omega) (by omega) (by simp; omega) ?_)
      case hnews => exact cell_of_new _ _ _
      case hone => intro u hu; simp only [List.mem_singleton] at hu; subst hu; rfl
      intro v' w2 hown2 hg2 _
      rw [u8s_snoc, ← List.range_succ] at hown2
      have hb2 : Below w.heap.size w w2 := (hb.alloc hsz _).grown hg2 (by simp; omega) (fun g hg => by
        obtain ⟨_, h2⟩ := hown1
        rcases h2 with ⟨h3, _⟩ | ⟨g', cap, cur, h3, h4, _⟩
        · subst h3; cases hg
        · subst h3; simp [Value.ownBlock] at hg; omega)
      clear hown hown1 hb hg2
      go_wp2
      go_roundw
      case rel => exact ⟨i + 1, by omega, by go_num, hown2, hb2⟩
      case measure => simp [intOf]; omega
    · obtain rfl : i = k := by omega
      obtain ⟨a, c, rfl, hm1, hm2, hbs, hm3⟩ := bs_of_owns hown (fun n hn => by have := List.mem_range.1 hn; omega)
      clear hown hm1 hm2 hm3
      go_wp2
      go_ret
      exact ⟨a, c, rfl, hbs, hb⟩

/-- the factors of the reference's product below -/
def bnTo (l : List Nat) (x i : Nat) : Nat → Nat
  | 0 => x ^^^ l.getD i 0
  | j + 1 => if j ≠ i then Gf.tm (bnTo l x i j) (l.getD i 0 ^^^ l.getD j 0) else bnTo l x i j
theorem bnTo_lt (l : List Nat) (hl : ∀ i, l.getD i 0 < 256) (x : Nat) (hx : x < 256) (i : Nat) : ∀ j, bnTo l x i j < 256
  | 0 => Gf.xor_lt hx (hl i)
  | j + 1 => by
    unfold bnTo
    split
    · exact Gf.tm_lt _ _ (bnTo_lt l hl x hx i j)
    · exact bnTo_lt l hl x hx i j
theorem bnTo_eq (l : List Nat) (hl : ∀ i, l.getD i 0 < 256) (x : Nat) (hx : x < 256) (i : Nat) : ∀ j, bnTo l x i j = Gf.tm (x ^^^ l.getD i 0) (pnTo l i j)
  | 0 => (Gf.tm_one_right _ (Gf.xor_lt hx (hl i))).symm
  | j + 1 => by
    unfold bnTo pnTo
    by_cases h : j = i
    · rw [if_neg (by simp [h]), if_neg (by simp [h]), bnTo_eq l hl x hx i j]
    · rw [if_pos h, if_pos (fun e => h e.symm), bnTo_eq l hl x hx i j, Gf.tm_assoc _ _ _ (Gf.xor_lt hx (hl i)) (pnTo_lt l hl i j) (Gf.xor_lt (hl i) (hl j))]
theorem iv_tm (a b : Nat) (ha : a < 256) (hb : b < 256) (a0 : a ≠ 0) (b0 : b ≠ 0) : Gf.iv (Gf.tm a b) = Gf.tm (Gf.iv a) (Gf.iv b) := by
  refine (Gf.iv_unique _ _ (Gf.tm_lt _ _ ha) (Gf.tm_lt _ _ (Gf.iv_lt a)) ?_).symm
  have h1 := Gf.iv_lt a
  have h2 := Gf.iv_lt b
  rw [Gf.tm_assoc a b _ ha hb (Gf.tm_lt _ _ h1), Gf.tm_comm b _ hb (Gf.tm_lt _ _ h1), Gf.tm_assoc _ _ b h1 h2 hb, Gf.tm_comm (Gf.iv b) b h2 hb, Gf.tm_iv b hb b0, Gf.tm_one_right _ h1, Gf.tm_iv a ha a0]
/-- the reference's weight -/
theorem rwt_eq (l : List Nat) (hl : ∀ i, l.getD i 0 < 256) (hd : l.Nodup) (x : Nat) (hx : x < 256) (i : Nat) (hi : i < l.length) (hxi : x ≠ l.getD i 0) : Gf.tm (pxTo l x l.length) (Gf.iv (bnTo l x i l.length)) = wt l (scales l) x i := by
  have h1 := Gf.xor_lt hx (hl i)
  have h2 := pnTo_lt l hl i l.length
  have h3 := pnTo_pos l hl hd i hi l.length (Nat.le_refl _)
  have h4 := xor_ne hxi
  unfold wt
  rw [bnTo_eq l hl x hx, iv_tm _ _ h1 h2 h4 h3, scales_getD l i hi]
  unfold scale
  rw [Gf.tm_assoc _ _ _ (pxTo_lt l x _) (Gf.iv_lt _) (Gf.iv_lt _)]

theorem Over_nz (x : Nat) (hx : x < 256) (h0 : x ≠ 0) (w : World) :
    Calls Tryd.prog 89 #[.int .u8 x] w fun e w' => e = .returned (.int .u8 (Gf.iv x)) ∧ w = w' := by
  have h := Over_any x hx w
  rwa [if_neg h0] at h

set_option maxRecDepth 100000 in
set_option maxHeartbeats 4000000 in
theorem rweights_any (a : Option Addr) (n c : Nat) (l : List Nat) (x : Nat) (hx : x < 256) (w : World) (hl : Bs w (.slice a n c) l) (hn : n ≤ 256) (hd : l.Nodup) :
    Calls Tryd.prog 68 #[.slice a n c, .int .u8 x] w fun e w' => ∃ ob, w.heap.size ≤ ob ∧ e = .returned (.slice (some ⟨ob, 0, none⟩) n n) ∧ Own w' ob (wts l (scales l) x) ∧ Below w.heap.size w w' := by
  have HNL := hid hl.len
  have HLT := hid hl.lt
  have HD := hid hd
  clear hd
  have hmk := mk_u8 n (by omega)
  have ho := own_zrow w n
  have hb : Below w.heap.size w (w.alloc (zrow n)) := (Below.refl _ _).alloc (Nat.le_refl _) _
  have hl1 := hl.below hb
  go_enter Tryd.func68, Tryd.ntmps68
  go_wp2
  clear hmk
  go_loop [6] (fun iv => ∃ i : Nat, i ≤ n ∧ iv = .int .i64 i ∧ Hid (∀ j, j < i → l.getD j 0 ≠ x)) (fun iv => n - (intOf iv).toNat)
  case atStart => exact ⟨0, by omega, rfl, fun j hj => absurd hj (Nat.not_lt_zero _)⟩
  case round =>
    obtain ⟨i, hi, rfl, HNE⟩ := hrel
    by_cases hlt : i < n
    · rcases hl1.addr with ⟨h0, _⟩ | ⟨h0, b, o, c', hv⟩
      · exfalso; have := HNL.out; rw [h0] at this; simp at this; omega
      · simp only [Value.slice.injEq] at hv
        obtain ⟨rfl, hnn, hcc⟩ := hv
        clear hnn hcc h0
        have hc := hl1.cell i (by rw [← HNL.out]; exact hlt)
        have hcl := HLT.out i
        by_cases hix : l.getD i 0 = x
        · have hwt : wts l (scales l) x = (List.replicate n 0).set i 1 := by
            have hil : i < l.length := by rw [← HNL.out]; exact hlt
            have hm : x ∈ l := by
              rw [← hix, List.getD_eq_getElem?_getD, List.getElem?_eq_getElem hil]; exact List.getElem_mem _
            have hidx : l.idxOf x = i := by
              have h1 := List.idxOf_lt_length_of_mem hm
              have h2 : l.getD (l.idxOf x) 0 = x := by
                rw [List.getD_eq_getElem?_getD, List.getElem?_eq_getElem h1]; exact List.getElem_idxOf h1
              by_cases e : l.idxOf x = i
              · exact e
              · exact absurd (h2.trans hix.symm) (nodup_getD HD.out h1 hil e)
            unfold wts
            rw [if_pos hm, hidx, ← HNL.out]
          have t1 : (((l.getD i 0 : Nat) : Int) == (x : Int)) = true := by rw [hix]; simp
          have HW := hid hwt
          clear hwt hix
          generalize l.getD i 0 = p at *
          have co := ho.cell i (by simpa using hlt)
          have fo := ho.free i
          go_wp2
          go_ret
          exact ⟨w.heap.size, Nat.le_refl _, rfl, by rw [HW.out]; exact ho.set i 1, hb.setCell (Nat.le_refl _) _⟩
        · have t1 : (((l.getD i 0 : Nat) : Int) == (x : Int)) = false := by rw [beq_eq_false_iff_ne]; exact fun h => hix (by omega)
          have hne2 : ∀ j, j < i + 1 → l.getD j 0 ≠ x := fun j hj => by
            by_cases e : j = i
            · rw [e]; exact hix
            · exact HNE.out j (by omega)
          have HNE2 := hid hne2
          clear hne2 hix
          generalize l.getD i 0 = p at *
          go_wp2
          exact ⟨⟨i + 1, by omega, by go_num, HNE2⟩, by simp [intOf]; omega⟩
    · obtain rfl : i = n := by omega
      have hwt : wts l (scales l) x = upTo i (wt l (scales l) x) i := by
        have hm : ¬ x ∈ l := fun hm => by
          have h1 := List.idxOf_lt_length_of_mem hm
          have h2 : l.getD (l.idxOf x) 0 = x := by
            rw [List.getD_eq_getElem?_getD, List.getElem?_eq_getElem h1]; exact List.getElem_idxOf h1
          exact HNE.out _ (by rw [HNL.out]; exact h1) h2
        unfold wts
        rw [if_neg hm, upTo_all, HNL.out]
      have HW := hid hwt
      rw [← upTo_zero i (wt l (scales l) x)] at ho
      clear hwt
      go_wp2
      go_loop [7, 8] (fun p iv => ∃ m : Nat, m ≤ i ∧ iv = .int .i64 m ∧ p = .int .u8 (pxTo l x m)) (fun _ iv => i - (intOf iv).toNat)
      case atStart => exact ⟨0, by omega, rfl, rfl⟩
      case round =>
        obtain ⟨m, hm, rfl, rfl⟩ := hrel
        by_cases hlt : m < i
        · rcases hl1.addr with ⟨h0, _⟩ | ⟨h0, b, o, c', hv⟩
          · exfalso; have := HNL.out; rw [h0] at this; simp at this; omega
          · simp only [Value.slice.injEq] at hv
            obtain ⟨rfl, hnn, hcc⟩ := hv
            clear hnn hcc h0
            have hc := hl1.cell m (by rw [← HNL.out]; exact hlt)
            have hcl := HLT.out m
            have hpl := pxTo_lt l x m
            have hst : pxTo l x (m + 1) = Gf.tm (pxTo l x m) (x ^^^ l.getD m 0) := rfl
            have HS := hid hst
            clear hst
            generalize l.getD m 0 = pm at *
            have hxi := u8_xor_nat x pm hx hcl
            have hxl := Gf.xor_lt hx hcl
            generalize x ^^^ pm = xx at *
            generalize pxTo l x m = pp at *
            go_wp2_with (go_at_call 88; refine (Times_any pp xx hpl hxl _).mono ?_; rintro e w' ⟨rfl, rfl⟩)
            exact ⟨⟨m + 1, by omega, by go_num, by rw [HS.out]⟩, by simp [intOf]; omega⟩
        · obtain rfl : m = i := by omega
          have hpx := pxTo_lt l x m
          have hpe : ∀ j, j < m → Gf.tm (pxTo l x m) (Gf.iv (bnTo l x j m)) = wt l (scales l) x j := fun j hj => by
            have h5 := rwt_eq l HLT.out HD.out x hx j (by rw [← HNL.out]; exact hj) (fun e => HNE.out j hj e.symm)
            rwa [← HNL.out] at h5
          have HPE := hid hpe
          clear hpe
          generalize pxTo l x m = pp at *
          go_wp2
          go_loopw [9, 10, 11] (fun iv _ _ wr => ∃ j : Nat, j ≤ m ∧ iv = .int .i64 j ∧ Own wr w.heap.size (upTo m (wt l (scales l) x) j) ∧ Below w.heap.size w wr) (fun iv _ _ _ => m - (intOf iv).toNat)
          case atStart => exact ⟨0, by omega, rfl, ho, hb⟩
          case round =>
            clear ho hb hl1
            obtain ⟨j, hj, rfl, ho, hb⟩ := hrel
            obtain ⟨wo, rfl⟩ : ∃ wo : World, wo = wr := ⟨_, rfl⟩
            by_cases hlt2 : j < m
            · have hl2 := hl.below hb
              rcases hl2.addr with ⟨h0, _⟩ | ⟨h0, b, o, c', hv⟩
              · exfalso; have := HNL.out; rw [h0] at this; simp at this; omega
              · simp only [Value.slice.injEq] at hv
                obtain ⟨rfl, hnn, hcc⟩ := hv
                clear hnn hcc h0
                have hc := hl2.cell j (by rw [← HNL.out]; exact hlt2)
                have hcl := HLT.out j
                have hxi := u8_xor_nat x (l.getD j 0) hx hcl
                have hbn0 : bnTo l x j 0 = x ^^^ l.getD j 0 := rfl
                rw [← hbn0] at hxi
                have hbl := bnTo_lt l HLT.out x hx j
                have HBL := hid hbl
                clear hbl hbn0
                generalize hpj : l.getD j 0 = pj at *
                have HPJ := hid hpj
                clear hpj
                go_wp2
                go_loopw [10, 11] (fun p iv wr => ∃ q : Nat, q ≤ m ∧ iv = .int .i64 q ∧ p = .int .u8 (bnTo l x j q) ∧ ∃ dr, Hid (wr = wo.drewN dr)) (fun _ iv _ => m - (intOf iv).toNat)
                case atStart => exact ⟨0, by omega, rfl, rfl, 0, rfl⟩
                case round =>
                  obtain ⟨q, hq, rfl, rfl, dr, hw⟩ := hrel
                  have hw' := hw.out
                  by_cases hlt3 : q < m
                  · by_cases hqj : q = j
                    · have hb1 : ((q : Int) != (j : Int)) = false := by simp [hqj]
                      have hst : bnTo l x j (q + 1) = bnTo l x j q := by
                        show (if q ≠ j then _ else _) = _
                        rw [if_neg (by simp [hqj])]
                      have HST := hid hst
                      clear hst hqj hw'
                      go_wp2
                      go_roundw
                      case rel => exact ⟨q + 1, by omega, by go_num, by rw [HST.out], dr, hw⟩
                      case measure => simp [intOf]; omega
                    · have hb1 : ((q : Int) != (j : Int)) = true := by simp; omega
                      have hst : bnTo l x j (q + 1) = Gf.tm (bnTo l x j q) (pj ^^^ l.getD q 0) := by
                        show (if q ≠ j then _ else _) = _
                        rw [if_pos hqj, HPJ.out]
                      have HST := hid hst
                      have hl3 : Bs wr (.slice (some ⟨b, o, none⟩) m c) l := by rw [hw']; exact hl2.drewN dr
                      have hcj : wr.cell? ⟨b, o + j, none⟩ = some (.int .u8 (pj : Int)) := by rw [hw']; exact hc
                      have hcq := hl3.cell q (by rw [← HNL.out]; exact hlt3)
                      have hql := HLT.out q
                      have hbq := HBL.out q
                      clear hst hqj hw'
                      generalize l.getD q 0 = pq at *
                      have hxi2 := u8_xor_nat pj pq hcl hql
                      have hxl2 := Gf.xor_lt hcl hql
                      generalize bnTo l x j q = bb at *
                      go_wp2
                      go_quiet ((go_at_call 88; exact Calls.quiet_of_same ((Times_any bb _ hbq hxl2 _).mono fun e w' h => ⟨h.1, h.2.symm⟩)))
                      go_wp2
                      go_roundw
                      case rel => exact ⟨q + 1, by omega, by go_num, by rw [HST.out], dr + nq, by rw [hw.out, World.drewN_drewN]; exact hid rfl⟩
                      case measure => simp [intOf]; omega
                  · obtain rfl : q = m := by omega
                    have hbq := HBL.out q
                    have hb0 : bnTo l x j q ≠ 0 := by
                      rw [bnTo_eq l HLT.out x hx]
                      exact Gf.tm_pos _ _ (Gf.xor_lt hx (HLT.out j)) (pnTo_lt l HLT.out j q) (xor_ne (fun e => HNE.out j hlt2 e.symm)) (pnTo_pos l HLT.out HD.out j (by rw [← HNL.out]; exact hlt2) q (by rw [HNL.out]; exact Nat.le_refl _))
                    have hwj := HPE.out j hlt2
                    have HWJ := hid hwj
                    have HB0 := hid hb0
                    clear hwj hb0
                    have ho' : Own wr w.heap.size (upTo q (wt l (scales l) x) j) := by rw [hw']; exact ho.drewN dr
                    have hbr : Below w.heap.size w wr := by rw [hw']; exact bel_drewN hb dr
                    have co := ho'.cell j (by rw [upTo_length]; exact hlt2)
                    have fo := ho'.free j
                    have hil := Gf.iv_lt (bnTo l x j q)
                    generalize bnTo l x j q = bb at *
                    clear hw'
                    go_wp2_with fail
                    refine (Over_nz bb hbq HB0.out _).mono ?_
                    rintro e w' ⟨rfl, rfl⟩
                    go_wp2_with fail
                    refine (Times_any pp (Gf.iv bb) hpx hil _).mono ?_
                    rintro e w' ⟨rfl, rfl⟩
                    go_wp2
                    refine ⟨⟨j + 1, by omega, by go_num, ?_, hbr.setCell (Nat.le_refl _) _⟩, by simp [intOf]; omega⟩
                    rw [← upTo_set, ← HWJ.out]
                    exact ho'.set j _
            · obtain rfl : j = m := by omega
              go_wp2
              go_ret
              exact ⟨w.heap.size, Nat.le_refl _, rfl, by rw [HW.out]; exact ho, hb⟩
end Go.Proofs.YtafkjfpmjhfofaaDoor

namespace Go.Proofs.YtafkjfpmjhfofaaDoor
open Go.RowKit

set_option maxRecDepth 100000 in
set_option maxHeartbeats 4000000 in
theorem rmix_any (b o c wb wo wc k L : Nat) (ps : List (Int × Sl)) (ws : List Nat) (D : List (List Nat)) (w : World) (hp : Ps w (.slice (some ⟨b, o, none⟩) k c) ps) (hk : k ≤ 256) (hkp : k = ps.length)
    (hD : ∀ i, (h : i < ps.length) → Bs w (.slice ps[i].2.1 ps[i].2.2.1 ps[i].2.2.2) (D.getD i []) ∧ (D.getD i []).length = L)
    (hw : Bs w (.slice (some ⟨wb, wo, none⟩) k wc) ws) (hL : L ≤ 1000000) :
    Calls Tryd.prog 67 #[.slice (some ⟨b, o, none⟩) k c, .slice (some ⟨wb, wo, none⟩) k wc, .int .i64 L] w fun e w' => ∃ ob, w.heap.size ≤ ob ∧ e = .returned (.slice (some ⟨ob, 0, none⟩) L L) ∧ Own w' ob (mixL D ws L k) ∧ Below w.heap.size w w' := by
  have HD := hid hD
  have HP := hid hp
  have HKP := hid hkp
  have HWN := hid hw.len
  have HWL := hid hw.lt
  have HW := hid hw
  clear hD hp hkp hw
  have hmk := mk_u8 L (by omega)
  have ho := own_zrow w L
  rw [← mixL_zero D ws L] at ho
  have hb : Below w.heap.size w (w.alloc (zrow L)) := (Below.refl _ _).alloc (Nat.le_refl _) _
  go_enter Tryd.func67, Tryd.ntmps67
  go_wp2
  clear hmk
  go_loopw [8, 9] (fun iv _ wr => ∃ i : Nat, i ≤ k ∧ iv = .int .i64 i ∧ Own wr w.heap.size (mixL D ws L i) ∧ Below w.heap.size w wr) (fun iv _ _ => k - (intOf iv).toNat)
  case atStart => exact ⟨0, by omega, rfl, ho, hb⟩
  case round =>
    clear ho hb
    obtain ⟨i, hi, rfl, ho, hb⟩ := hrel
    obtain ⟨wo', rfl⟩ : ∃ wo' : World, wo' = wr := ⟨_, rfl⟩
    by_cases hlt : i < k
    · have hwb := HW.out.below hb
      have cw := hwb.cell i (by rw [← HWN.out]; exact hlt)
      have hwl := HWL.out i
      generalize hwi : ws.getD i 0 = wi at *
      by_cases hw0 : wi = 0
      · have hb1 : ((wi : Int) == 0) = true := by simp [hw0]
        have hst := mixL_skip D ws L i (by rw [hwi, hw0])
        have HST := hid hst
        clear hst hw0 hwi
        go_wp2
        refine ⟨⟨i + 1, by omega, by go_num, ?_, hb⟩, by simp [intOf]; omega⟩
        rw [HST.out]; exact ho
      · have hb1 : ((wi : Int) == 0) = false := by simp; omega
        have hst := mixL_step D ws L i
        rw [hwi] at hst
        have HST := hid hst
        have HWI := hid hwi
        clear hst hw0 hwi
        have hall : ∀ W, Below w.heap.size w W → W.cell? ⟨b, o + i * 2 + 1, none⟩ = some (.slice (ps[i]'(by rw [← HKP.out]; exact hlt)).2.1 (ps[i]'(by rw [← HKP.out]; exact hlt)).2.2.1 (ps[i]'(by rw [← HKP.out]; exact hlt)).2.2.2) ∧ Bs W (.slice (ps[i]'(by rw [← HKP.out]; exact hlt)).2.1 (ps[i]'(by rw [← HKP.out]; exact hlt)).2.2.1 (ps[i]'(by rw [← HKP.out]; exact hlt)).2.2.2) (D.getD i []) := fun W hW => ⟨((Ps.below HP.out hW).cells i (by rw [← HKP.out]; exact hlt)).2, (HD.out i (by rw [← HKP.out]; exact hlt)).1.below hW⟩
        have hcp := ((Ps.below HP.out hb).cells i (by rw [← HKP.out]; exact hlt)).2
        have hdi := HD.out i (by rw [← HKP.out]; exact hlt)
        have hbd := hdi.1.below hb
        have hlen := hdi.2
        have hbl := hdi.1.len
        have hdlow : 0 < L → Off w.heap.size (.slice (ps[i]'(by rw [← HKP.out]; exact hlt)).2.1 (ps[i]'(by rw [← HKP.out]; exact hlt)).2.2.1 (ps[i]'(by rw [← HKP.out]; exact hlt)).2.2.2) := fun h => hdi.1.off_ge (by intro e; rw [e] at hlen; simp at hlen; omega) (Nat.le_refl _)
        generalize ps[i].2.1 = da at *
        generalize ps[i].2.2.1 = dn at *
        generalize ps[i].2.2.2 = dc at *
        rw [hlen] at hbl
        subst hbl
        have HLEN := hid hlen
        have HBD := hid hbd
        have HDL := hid hbd.lt
        have HALL := hid hall
        clear hdi hbd hdlow hlen hall hcp
        go_wp2
        go_loopw [9] (fun cv wr => ∃ q : Nat, q ≤ dn ∧ cv = .int .i64 q ∧ Own wr w.heap.size (axTo (mixL D ws dn i) 0 (D.getD i []) wi q) ∧ Below w.heap.size wo' wr) (fun cv _ => dn - (intOf cv).toNat)
        case atStart => exact ⟨0, by omega, rfl, ho, Below.refl _ _⟩
        case round =>
          obtain ⟨q, hq, rfl, ho2, hb2⟩ := hrel
          by_cases hlt2 : q < dn
          · have hbr := hb.trans hb2
            have cw2 := (HW.out.below hbr).cell i (by rw [← HWN.out]; exact hlt)
            rw [HWI.out] at cw2
            obtain ⟨cp2, hbd2⟩ := HALL.out wr hbr
            rcases hbd2.addr with ⟨h0, _⟩ | ⟨h0, db, do', c', hv⟩
            · exfalso; have := HLEN.out; rw [h0] at this; simp at this; omega
            · simp only [Value.slice.injEq] at hv
              obtain ⟨rfl, hnn, hcc⟩ := hv
              clear hnn hcc h0
              have cd := hbd2.cell q (by rw [HLEN.out]; exact hlt2)
              have hdl := HDL.out q
              have co := ho2.cell q (by rw [axTo_length, mixL_length]; exact hlt2)
              have fo := ho2.free q
              have hzl : (axTo (mixL D ws dn i) 0 (D.getD i []) wi q).getD q 0 < 256 := by
                rw [axTo_getD _ _ _ _ _ (by rw [mixL_length]; omega)]
                have h6 := getD_lt (mixL_lt D ws dn i HWL.out) q
                split
                · exact Gf.xor_lt h6 (Gf.tm_lt _ _ hwl)
                · exact h6
              have hst : axTo (mixL D ws dn i) 0 (D.getD i []) wi (q + 1) = (axTo (mixL D ws dn i) 0 (D.getD i []) wi q).set (0 + q) ((axTo (mixL D ws dn i) 0 (D.getD i []) wi q).getD (0 + q) 0 ^^^ Gf.tm wi ((D.getD i []).getD q 0)) := rfl
              rw [Nat.zero_add] at hst
              have HS2 := hid hst
              clear hst
              generalize hz : (axTo (mixL D ws dn i) 0 (D.getD i []) wi q).getD q 0 = z at *
              have HZ := hid hz
              clear hz
              generalize (D.getD i []).getD q 0 = y at *
              have hxo := u8_xor_nat z (Gf.tm wi y) hzl (Gf.tm_lt _ _ hwl)
              go_wp2
              refine region_quiet_tail 19 (by kernel_rfl) (by kernel_rfl) ?_
              simp only [List.take_succ_cons, List.take_zero, List.drop_succ_cons, List.drop_zero]
              repeat (quiet_step ((go_at_call 88; exact Calls.quiet_of_same ((Times_any wi y hwl hdl _).mono fun e w' h => ⟨h.1, h.2.symm⟩))))
              refine wpQuiet_nil ?_
              intro nq
              go_wp2
              refine ⟨⟨q + 1, by omega, by go_num, ?_, ?_⟩, by simp [intOf]; omega⟩
              · rw [HS2.out]
                exact (ho2.drewN nq).set q _
              · exact (bel_drewN hb2 nq).setCell (Nat.le_refl _) _
          · obtain rfl : q = dn := by omega
            rw [HST.out] at ho2
            go_wp2
            exact ⟨⟨i + 1, by omega, by go_num, ho2, hb.trans hb2⟩, by simp [intOf]; omega⟩
    · obtain rfl : i = k := by omega
      go_wp2
      go_ret
      exact ⟨w.heap.size, Nat.le_refl _, rfl, ho, hb⟩
end Go.Proofs.YtafkjfpmjhfofaaDoor

namespace Go.Proofs.YtafkjfpmjhfofaaDoor
open Go.RowKit
set_option linter.unusedVariables false

theorem rsizes_yes (k t : Int) (h1 : 1 ≤ k) (h2 : k ≤ t) (h3 : t ≤ 255) (w : World) :
    Calls Tryd.prog 66 #[.int .i64 k, .int .i64 t] w fun e w' => e = .returned (.bool true) ∧ w = w' := by
  go_enter Tryd.func66, Tryd.ntmps66
  go_wp2
  go_ret
  exact ⟨rfl, rfl⟩
theorem rsizes_no (k t : Int) (h : ¬ (1 ≤ k ∧ k ≤ t ∧ t ≤ 255)) (w : World) :
    Calls Tryd.prog 66 #[.int .i64 k, .int .i64 t] w fun e w' => e = .returned (.bool false) ∧ w = w' := by
  by_cases h1 : 1 ≤ k
  · by_cases h2 : k ≤ t
    · have h3 : ¬ t ≤ 255 := by omega
      clear h
      go_enter Tryd.func66, Tryd.ntmps66
      go_wp2
      go_ret
      exact ⟨rfl, rfl⟩
    · clear h
      go_enter Tryd.func66, Tryd.ntmps66
      go_wp2
      go_ret
      exact ⟨rfl, rfl⟩
  · clear h
    go_enter Tryd.func66, Tryd.ntmps66
    go_wp2
    go_ret
    exact ⟨rfl, rfl⟩

theorem owns_below {w w' : World} {base size n : Nat} {e : TypeId} {v : Value} {xs : List Value} (h : w.ownsRow base e size v n xs) (k : Below w.heap.size w w') : w'.ownsRow base e size v n xs := by
  obtain ⟨h1, h2⟩ := h
  refine ⟨h1, ?_⟩
  rcases h2 with h2 | ⟨g, cap, cur, h3, h4, h5, h6⟩
  · exact .inl h2
  · exact .inr ⟨g, cap, cur, h3, h4, (k.block g (lt_of_heap h5)).trans h5, h6⟩
/-- a row of pieces, its first k elements -/
theorem ps_of_owns {w : World} {base g cap n k c : Nat} {ps : List (Int × Sl)} (h : w.ownsRow base 43 2 (.slice (some ⟨g, 0, none⟩) n cap) n (pcells ps)) (hk : k ≤ ps.length) : Ps w (.slice (some ⟨g, 0, none⟩) k c) (ps.take k) := by
  obtain ⟨h1, h2⟩ := h
  rcases h2 with ⟨h2, _⟩ | ⟨g', cap', cur, h3, h4, h5, _, _, _, h6⟩
  · cases h2
  · simp only [Value.slice.injEq, Option.some.injEq, Addr.mk.injEq, and_true, true_and] at h3
    obtain ⟨rfl, _⟩ := h3
    have hlen : (ps.take k).length = k := by simp; omega
    have hpl : n = ps.length := by rw [pcells_length] at h1; omega
    refine ⟨_, c, by rw [hlen], fun _ => ⟨g, 0, rfl, fun i hi => ?_⟩⟩
    rw [hlen] at hi
    have e : ∀ j, j < n * 2 → cur[j]? = (pcells ps)[j]? := fun j hj => by
      rw [← h6, List.getElem?_take_of_lt hj, Array.getElem?_toList]
    have hi2 : i < ps.length := by omega
    rw [Nat.zero_add, cell_of_heap h5, cell_of_heap h5, e _ (by omega), e _ (by omega), pcells_get0 ps i hi2, pcells_get1 ps i hi2]
    simp
theorem cells_of_new2 (w : World) (x y : Value) (t : TypeId) : ∀ (j : Nat) (u : Value), [x, y][j]? = some u → (w.alloc (.cells #[x, y] t)).cell? ((⟨w.heap.size, 0, none⟩ : Addr).add j) = some u := by
  intro j u h
  match j with
  | 0 =>
    simp at h
    subst h
    show (w.alloc (.cells #[x, y] t)).cell? ⟨w.heap.size, 0, none⟩ = some x
    simp
  | 1 =>
    simp at h
    subst h
    show (w.alloc (.cells #[x, y] t)).cell? ⟨w.heap.size, 0 + 1, none⟩ = some y
    simp
  | j + 2 => simp at h
theorem mkps_snoc (bf : Nat → Nat) (L i nb : Nat) : pcells (mkps bf L i i) ++ [.int .i64 (i : Int), .slice (some ⟨nb, 0, none⟩) L L] = pcells (mkps (fun j => if j = i then nb else bf j) L (i + 1) (i + 1)) := by
  have e : mkps (fun j => if j = i then nb else bf j) L (i + 1) (i + 1) = mkps bf L i i ++ [((i : Int), some ⟨nb, 0, none⟩, L, L)] := by
    apply List.ext_getElem?
    intro j
    unfold mkps
    by_cases hj : j < i
    · rw [List.getElem?_append_left (by simpa using hj)]
      simp [hj, show j < i + 1 by omega, show ¬ j = i by omega]
    · rw [List.getElem?_append_right (by simp; omega)]
      by_cases h2 : j = i
      · subst h2; simp
      · rw [List.getElem?_eq_none (by simp; omega), List.getElem?_eq_none (by simp; omega)]
  rw [e, pcells_append]
  rfl

theorem step_append_own {P : Program} {ops : Array Oper} {o : Oper} {a : Act} {w : World} {K : Act → World → Prop} {Q : Exit → Act → World → Prop} {E : Prop} (hgd : o.guard = none) (s x : Operand) (t : TypeId)
    (ho : o.op = .call { callee := .builtin .append, args := #[s, x], argTypes := #[t, t] })
    (base : Nat) (e : TypeId) (i : TypeInfo) (z : Value) (size bytes : Nat) (ht : P.underlying t = some (.slice e)) (hi : P.info? e = some i) (hz : i.zero = some z)
    (hsize : i.size = size) (hby : i.bytes = bytes) (hzs : z.cells.size = size) (hsz : 0 < size)
    (v : Value) (n : Nat) (xs : List Value) (hs : a.eval s = v) (hown : w.ownsRow base e size v n xs)
    (ad : Addr) (m c : Nat) (news : List Value) (hx : a.eval x = .slice (some ad) m c) (hl : news.length = m * size) (hnews : ∀ j u, news[j]? = some u → w.cell? (ad.add j) = some u) (h1 : ∀ u ∈ news, u.oneCell' = true)
    (h63 : n + m ≤ maxLen) (hbytes : (n + m) * bytes ≤ 140737488355328) (hbase : base ≤ w.heap.size)
    (hK : ∀ v' w', w'.ownsRow base e size v' (n + m) (xs ++ news) → w.grownBy w' v.ownBlock → K (a.put o.dst v') w') :
    if Region.wanted o (yielded ops a.tmps) = true then Oper.wp P o a w K Q else E := by
  have hw : Region.wanted o (yielded ops a.tmps) = true := by simp [Region.wanted, hgd]
  rw [if_pos hw]
  exact wp_append_own w s x t ho base e i z size bytes ht hi hz hsize hby hzs hsz v n xs hs hown ad m c news hx hl hnews h1 h63 hbytes hbase fun v' w' h2 h3 _ => hK v' w' h2 h3
theorem chainA {wr wA : World} (h1 : Below wr.drew.heap.size wr.drew wA) : Below wr.heap.size wr wA := ⟨h1.os, h1.tape, h1.output, h1.size, h1.block⟩
theorem chainB {wr wA wB : World} (h1 : Below wr.drew.heap.size wr.drew wA) (h2 : Below wA.heap.size wA wB) : Below wr.heap.size wr wB := (chainA h1).trans (h2.mono h1.size)
theorem chainC {wr wA wB wC : World} (h1 : Below wr.drew.heap.size wr.drew wA) (h2 : Below wA.heap.size wA wB) (h3 : Below wB.heap.size wB wC) : Below wr.heap.size wr wC := (chainB h1 h2).trans (h3.mono (Nat.le_trans h1.size h2.size))
theorem two_one (x y : Int) (a b : Option Addr) (n m n' m' : Nat) (k : IntKind) : ∀ u ∈ [Value.int k x, Value.slice a n m], u.oneCell' = true := by
  intro u hu; simp at hu; rcases hu with rfl | rfl <;> rfl

/-- what the loops of Split keep -/
structure RSInv (B L k : Nat) (bf : Nat → Nat) (d : List Nat) (w wr : World) (v : Value) (i : Nat) : Prop where
  own : wr.ownsRow B 43 2 v i (pcells (mkps bf L i i))
  rows : ∀ j, j < i → Own wr (bf j) (encP d k L j)
  below : Below B w wr
theorem RSInv.step {B L k i nb : Nat} {bf : Nat → Nat} {d : List Nat} {w wr w1 w2 w3 : World} {v v' : Value} (h : RSInv B L k bf d w wr v i) (hB : B ≤ wr.heap.size) (h1 : Below wr.heap.size wr w1) (hnb : Own w1 nb (encP d k L i))
    (h2 : w2 = w1.alloc (.cells #[.int .i64 (i : Int), .slice (some ⟨nb, 0, none⟩) L L] 43)) (h3 : w3.ownsRow B 43 2 v' (i + 1) (pcells (mkps bf L i i) ++ [.int .i64 (i : Int), .slice (some ⟨nb, 0, none⟩) L L])) (h4 : w2.grownBy w3 v.ownBlock) :
    RSInv B L k (fun j => if j = i then nb else bf j) d w w3 v' (i + 1) := by
  subst h2
  have hs1 := h1.size
  have hne : ∀ g, v.ownBlock = some g → g ≠ nb ∧ (∀ j, j < i → bf j ≠ g) := fun g hg => by
    obtain ⟨_, h7⟩ := h.own
    rcases h7 with ⟨h8, _⟩ | ⟨g', cap, cur, h8, _, h9, _⟩
    · subst h8; cases hg
    · subst h8
      simp [Value.ownBlock] at hg
      subst hg
      refine ⟨fun e => ?_, fun j hj e => ?_⟩
      · subst e
        have h10 := (h1.block g' (lt_of_heap h9)).trans h9
        rw [hnb] at h10
        simp at h10
      · have h10 := h.rows j hj
        rw [e] at h10
        unfold Own at h10
        rw [h9] at h10
        simp at h10
  have hkeep : ∀ b l, Own w1 b l → (∀ g, v.ownBlock = some g → b ≠ g) → Own w3 b l := fun b l hb hg => by
    have h5 := hb.lt
    refine (h4.block b (by simp; omega) (fun e => ?_)).trans (hb.alloc _)
    exact hg b e.symm rfl
  refine ⟨by rw [← mkps_snoc]; exact h3, fun j hj => ?_, ?_⟩
  · show Own w3 (if j = i then nb else bf j) _
    by_cases e : j = i
    · rw [if_pos e, e]; exact hkeep nb _ hnb (fun g hg => fun e2 => (hne g hg).1 e2.symm)
    · rw [if_neg e]
      have h6 := h.rows j (by omega)
      exact hkeep _ _ (h6.below h1 h6.lt) (fun g hg => (hne g hg).2 j (by omega))
  · refine ((h.below.trans (h1.mono hB)).alloc (by omega) _).grown h4 (by simp; omega) (fun g hg => ?_)
    obtain ⟨_, h7⟩ := h.own
    rcases h7 with ⟨h8, _⟩ | ⟨g', cap, cur, h8, h9, _⟩
    · subst h8; cases hg
    · subst h8; simp [Value.ownBlock] at hg; omega

theorem pzero : ((Tryd.prog.info? 43).map (fun i => (i.zero, i.size, i.bytes))) = some (some (.agg #[.int .i64 0, .slice none 0 0]), 2, 32) := by kernel_rfl
theorem spl_upTo (d : List Nat) (L i q : Nat) (hq : q ≤ L) (h : q = L ∨ d.length ≤ i * L + q) : upTo L (fun c => d.getD (i * L + c) 0) q = spl d L i := by
  unfold upTo spl
  apply List.map_congr_left
  intro c hc
  have hcL := List.mem_range.1 hc
  by_cases h2 : c < q
  · rw [if_pos h2]
  · rw [if_neg h2, List.getD_eq_getElem?_getD, List.getElem?_eq_none (by omega)]; rfl

set_option maxRecDepth 100000 in
set_option maxHeartbeats 4000000 in
theorem rsplit_any (k t : Nat) (a : Option Addr) (n c : Nat) (d : List Nat) (w : World) (hd : Bs w (.slice a n c) d) (h1 : 1 ≤ k) (h2 : k ≤ t) (h3 : t ≤ 255) (hn : n ≤ 8192) :
    Calls Tryd.prog 40 #[.int .i64 k, .int .i64 t, .slice a n c] w fun e w' => ∃ v bf, e = .returned (.tuple #[v, .int .i64 0]) ∧ RSInv w.heap.size (plen k n) k bf d w w' v t := by
  have hnot : ∀ (x : Bool) (w : World), (Op.unary .not (.bool x)).run Tryd.prog w = .ok (.bool (!x)) w := fun _ _ => rfl
  obtain ⟨i0, hi, hz0, hz1, hz2⟩ := info_parts pzero
  have b4 : decide ((8192 : Int) < (n : Int)) = false := by simp; omega
  have HDN := hid hd.len
  have HD := hid hd
  have HDL := hid hd.lt
  have hpl := plen_le k n h1
  clear hd
  have hinv : RSInv w.heap.size (plen k n) k (fun _ => 0) d w (w.alloc (.cells #[] 43)) (.slice (some ⟨w.heap.size, 0, none⟩) 0 0) 0 :=
    ⟨⟨rfl, .inr ⟨w.heap.size, 0, #[], rfl, Nat.le_refl _, heap_new _ _, Nat.le_refl _, Nat.zero_le _, rfl, rfl⟩⟩, fun j hj => absurd hj (Nat.not_lt_zero _), (Below.refl _ _).alloc (Nat.le_refl _) _⟩
  generalize hL : plen k n = L at *
  have HL := hid hL
  have HINV := hid hinv
  clear hL hinv
  go_enter Tryd.func40, Tryd.ntmps40
  go_wp2_with fail
  refine (rsizes_yes k t (by omega) (by omega) (by omega) _).mono ?_
  rintro e w' ⟨rfl, rfl⟩
  go_wp2_with fail
  refine (length_ok k n h1 (by omega) hn _).mono ?_
  rw [HL.out]
  rintro e w' ⟨rfl, rfl⟩
  go_wp2
  go_loopw [10, 11, 12, 13] (fun v iv _ _ wr => ∃ (i : Nat) (bf : Nat → Nat), i ≤ k ∧ iv = .int .i64 i ∧ Hid (RSInv w.heap.size L k bf d w wr v i)) (fun _ iv _ _ _ => k - (intOf iv).toNat)
  case atStart => exact ⟨0, _, by omega, rfl, HINV⟩
  case round =>
    clear HINV
    obtain ⟨i, bf, hi', rfl, HINV⟩ := hrel
    obtain ⟨wo, rfl⟩ : ∃ wo : World, wo = wr := ⟨_, rfl⟩
    by_cases hlt : i < k
    · have hmk := mk_u8 L (by omega)
      have ho := own_zrow wo L
      rw [← upTo_zero L (fun c => d.getD (i * L + c) 0)] at ho
      have hiL : i * L ≤ 255 * 8192 := Nat.mul_le_mul (by omega) (by omega)
      have hcast : ((i : Int) * (L : Int)) = ((i * L : Nat) : Int) := rfl
      generalize hiq : i * L = z at *
      have HZ := hid hiq
      clear hiq
      go_wp2
      clear hmk
      go_loopw [13] (fun cv wr => ∃ q : Nat, q ≤ L ∧ cv = .int .i64 q ∧ Own wr wo.heap.size (upTo L (fun c => d.getD (z + c) 0) q) ∧ Below wo.heap.size wo wr) (fun cv _ => L - (intOf cv).toNat)
      case atStart => exact ⟨0, by omega, rfl, ho, (Below.refl _ _).alloc (Nat.le_refl _) _⟩
      case round =>
        clear ho
        obtain ⟨q, hq, rfl, ho, hb⟩ := hrel
        by_cases hg : q < L ∧ z + q < n
        · obtain ⟨hg1, hg2⟩ := hg
          have hdb := HD.out.below (HINV.out.below.trans (hb.mono HINV.out.below.size))
          rcases hdb.addr with ⟨h0, _⟩ | ⟨h0, b, o, c', hv⟩
          · exfalso; have := HDN.out; rw [h0] at this; simp at this; omega
          · simp only [Value.slice.injEq] at hv
            obtain ⟨rfl, hnn, hcc⟩ := hv
            clear hnn hcc h0
            have cd := hdb.cell (z + q) (by rw [← HDN.out]; exact hg2)
            have co := ho.cell q (by rw [upTo_length]; exact hg1)
            have fo := ho.free q
            have hst := upTo_set L (fun c => d.getD (z + c) 0) q
            have HST := hid hst
            clear hst
            generalize d.getD (z + q) 0 = x at *
            go_wp2
            refine ⟨⟨q + 1, by omega, by go_num, ?_, hb.setCell (Nat.le_refl _) _⟩, by simp [intOf]; omega⟩
            rw [← HST.out]
            exact ho.set q x
        · have hfull : upTo L (fun c => d.getD (z + c) 0) q = encP d k L i := by
            have h5 := spl_upTo d L i q hq (by rw [HZ.out, ← HDN.out]; omega)
            rw [HZ.out] at h5
            rw [h5]
            unfold encP
            rw [if_pos hlt]
          rw [hfull] at ho
          clear hfull
          have hbsz := hb.size
          have hBsz := HINV.out.below.size
          have hown2 := (owns_below HINV.out.own (hb)).alloc (.cells #[.int .i64 (i : Int), .slice (some ⟨wo.heap.size, 0, none⟩) L L] 43)
          by_cases hg1 : q < L
          · have hg2 : ¬ (z + q < n) := fun h => hg ⟨hg1, h⟩
            clear hg
            go_wp2_with (refine wpList_append_own _ rfl (.tmp 63) (.tmp 67) _ rfl w.heap.size 43 i0 (.agg #[.int .i64 0, .slice none 0 0]) 2 32 Tryd.underlying28 hi hz0 hz1 hz2 rfl (by decide) _ i (pcells (mkps bf L i i)) rfl hown2 ⟨wr.heap.size, 0, none⟩ 1 1 [.int .i64 (i : Int), .slice (some ⟨wo.heap.size, 0, none⟩) L L] rfl rfl ?hnews ?hone (by unfold maxLen; omega) (by omega) (by simp; omega) ?_)
            case hnews => exact cells_of_new2 _ _ _ _
            case hone => intro u hu; simp at hu; rcases hu with rfl | rfl <;> rfl
            intro v' w2 hown3 hg3 _
            have hstep := HINV.out.step HINV.out.below.size hb ho rfl hown3 hg3
            have HSTEP := hid hstep
            clear hstep hown3 hown2 hg3 ho
            go_wp2
            exact ⟨⟨i + 1, _, by omega, by go_num, HSTEP⟩, by simp [intOf]; omega⟩
          · clear hg
            go_wp2_with (refine wpList_append_own _ rfl (.tmp 63) (.tmp 67) _ rfl w.heap.size 43 i0 (.agg #[.int .i64 0, .slice none 0 0]) 2 32 Tryd.underlying28 hi hz0 hz1 hz2 rfl (by decide) _ i (pcells (mkps bf L i i)) rfl hown2 ⟨wr.heap.size, 0, none⟩ 1 1 [.int .i64 (i : Int), .slice (some ⟨wo.heap.size, 0, none⟩) L L] rfl rfl ?hnews ?hone (by unfold maxLen; omega) (by omega) (by simp; omega) ?_)
            case hnews => exact cells_of_new2 _ _ _ _
            case hone => intro u hu; simp at hu; rcases hu with rfl | rfl <;> rfl
            intro v' w2 hown3 hg3 _
            have hstep := HINV.out.step HINV.out.below.size hb ho rfl hown3 hg3
            have HSTEP := hid hstep
            clear hstep hown3 hown2 hg3 ho
            go_wp2
            exact ⟨⟨i + 1, _, by omega, by go_num, HSTEP⟩, by simp [intOf]; omega⟩
    · obtain rfl : i = k := by omega
      go_wp2
      go_loopw [10, 14] (fun v jv wr => ∃ (j : Nat) (bf' : Nat → Nat), i ≤ j ∧ j ≤ t ∧ jv = .int .i64 j ∧ Hid (RSInv w.heap.size L i bf' d w wr v j)) (fun _ jv _ => t - (intOf jv).toNat)
      case atStart => exact ⟨i, bf, by omega, by omega, rfl, HINV⟩
      case round =>
        clear HINV
        obtain ⟨j, bf', hij, hjt, rfl, HINV⟩ := hrel
        by_cases hlt2 : j < t
        · obtain ⟨g, cap, cur, hv, hgb, hg, hcap, hcm, hcs, hct⟩ : ∃ g cap cur, u10 = .slice (some ⟨g, 0, none⟩) j cap ∧ w.heap.size ≤ g ∧ wr.heap[g]? = some (.cells cur 43 (0, 0)) ∧ j ≤ cap ∧ cap ≤ maxLen ∧ cur.size = cap * 2 ∧ cur.toList.take (j * 2) = pcells (mkps bf' L j j) := by
            obtain ⟨_, h7⟩ := HINV.out.own
            rcases h7 with ⟨h8, h9⟩ | h8
            · omega
            · exact h8
          subst hv
          have hic : i ≤ cap := by omega
          have hps : ∀ W, Below wr.heap.size wr W → Ps W (.slice (some ⟨g, 0, none⟩) i cap) (mkps bf' L i i) := fun W hW => by
            have h5 := ps_of_owns (c := cap) (owns_below HINV.out.own hW) (show i ≤ (mkps bf' L j j).length by rw [mkps_length]; exact hij)
            have h6 : (mkps bf' L j j).take i = mkps bf' L i i := by
              unfold mkps
              apply List.ext_getElem?
              intro q
              by_cases hq : q < i
              · rw [List.getElem?_take_of_lt hq]
                simp [hq, show q < j by omega]
              · rw [List.getElem?_eq_none (by simp; omega), List.getElem?_eq_none (by simp; omega)]
            rwa [h6] at h5
          have hdat : ∀ W, Below wr.heap.size wr W → ∀ q, (h : q < (mkps bf' L i i).length) → Bs W (.slice (mkps bf' L i i)[q].2.1 (mkps bf' L i i)[q].2.2.1 (mkps bf' L i i)[q].2.2.2) (((List.range i).map (spl d L)).getD q []) ∧ (((List.range i).map (spl d L)).getD q []).length = L := fun W hW q h => by
            have hqi : q < i := by rwa [mkps_length] at h
            rw [mkps_get _ _ _ _ _ h hqi, range_map_getD _ _ _ hqi]
            refine ⟨?_, spl_length _ _ _⟩
            have h5 := HINV.out.rows q (by omega)
            unfold encP at h5
            rw [if_pos hqi] at h5
            have h6 := (h5.below hW h5.lt).bs (fun x hx => by
              unfold spl at hx
              obtain ⟨c', _, rfl⟩ := List.mem_map.1 hx
              exact HDL.out _) L
            rwa [spl_length] at h6
          have hmix : ∀ W ob, Below wr.heap.size wr W → Own W ob (wts (List.range i) (scales (List.range i)) j) → Calls Tryd.prog 67 #[.slice (some ⟨g, 0, none⟩) i cap, .slice (some ⟨ob, 0, none⟩) i i, .int .i64 L] W fun e w' => ∃ oc, e = .returned (.slice (some ⟨oc, 0, none⟩) L L) ∧ Own w' oc (encP d i L j) ∧ Below W.heap.size W w' := fun W ob hW how => by
            have h9 := how.bs (wts_lt _ _ _) i
            rw [wts_length, List.length_range] at h9
            refine (rmix_any g 0 cap ob 0 i i L (mkps bf' L i i) (wts (List.range i) (scales (List.range i)) j) ((List.range i).map (spl d L)) W (hps W hW) (by omega) (by rw [mkps_length]) (hdat W hW) h9 (by omega)).mono ?_
            rintro e w' ⟨oc, _, rfl, hoc, hbC⟩
            refine ⟨oc, rfl, ?_, hbC⟩
            unfold encP
            rw [if_neg (by omega)]
            exact hoc
          have hown' : ∀ W oc, Below wr.heap.size wr W → (W.alloc (.cells #[.int .i64 (j : Int), .slice (some ⟨oc, 0, none⟩) L L] 43)).ownsRow w.heap.size 43 2 (.slice (some ⟨g, 0, none⟩) j cap) j (pcells (mkps bf' L j j)) := fun W oc hW => (owns_below HINV.out.own hW).alloc _
          have hbse : ∀ W oc, Below wr.heap.size wr W → w.heap.size ≤ (W.alloc (.cells #[.int .i64 (j : Int), .slice (some ⟨oc, 0, none⟩) L L] 43)).heap.size := fun W oc hW => by
            have h8 := hW.size
            have h9 := HINV.out.below.size
            simp; omega
          have HMIX := hid hmix
          have HOW := hid hown'
          have HBS := hid hbse
          have HJM := hid (show j + 1 ≤ maxLen by unfold maxLen; omega)
          have HJB := hid (show (j + 1) * 32 ≤ 140737488355328 by omega)
          have HFI := hid (fun W => first_any i (by omega) W)
          have hwr : IntKind.u8.wrap (j : Int) = (j : Int) := by rw [IntKind.wrap_u8]; omega
          have hwe := fun fa fc W (h : Bs W (.slice fa i fc) (List.range i)) => rweights_any fa i fc (List.range i) j (by omega) W h (by omega) List.nodup_range
          rw [← hwr] at hwe
          have HWE := hid hwe
          clear hwe hwr
          have hBw := HINV.out.below.size
          clear hps hdat hg hcs hct hmix hown' hbse
          go_wp2
          go_region_law (first | (go_simp; go_at_call 69; refine (HFI.out _).mono ?_; rintro e0 wA ⟨fa, fc, rfl, hfb, hbA⟩) | (go_simp; go_at_call 68; refine (HWE.out _ _ _ hfb).mono ?_; rintro e0 wB ⟨ob, hob, rfl, how, hbB⟩) | (go_simp; go_at_call 67; refine (HMIX.out _ _ (chainB hbA hbB) how).mono ?_; rintro e0 wC ⟨oc, rfl, hoC, hbC⟩) | (refine step_append_own rfl (.tmp 75) (.tmp 88) _ rfl w.heap.size 43 i0 (.agg #[.int .i64 0, .slice none 0 0]) 2 32 Tryd.underlying28 hi hz0 hz1 hz2 rfl (by decide) _ j (pcells (mkps bf' L j j)) rfl (HOW.out _ _ (chainC hbA hbB hbC)) ⟨wC.heap.size, 0, none⟩ 1 1 [.int .i64 (j : Int), .slice (some ⟨oc, 0, none⟩) L L] rfl rfl (cells_of_new2 _ _ _ _) (two_one _ 0 _ none _ _ 0 0 _) HJM.out HJB.out (HBS.out _ _ (chainC hbA hbB hbC)) ?_; intro v' w5 hown5 hg5))
          have hstep := HINV.out.step HINV.out.below.size (chainC hbA hbB hbC) hoC rfl hown5 hg5
          have HSTEP := hid hstep
          clear hstep hown5 hg5 hoC
          go_wp2
          exact ⟨⟨j + 1, _, by omega, by omega, by go_num, HSTEP⟩, by simp [intOf]; omega⟩
        · obtain rfl : j = t := by omega
          go_wp2
          go_ret2
          exact ⟨_, _, rfl, HINV.out⟩
end Go.Proofs.YtafkjfpmjhfofaaDoor

namespace Go.Proofs.YtafkjfpmjhfofaaDoor
open Go.RowKit
set_option linter.unusedVariables false

theorem ps_addr {w : World} {a : Option Addr} {n c : Nat} {ps : List (Int × Sl)} (h : Ps w (.slice a n c) ps) (hn : 0 < n) : n = ps.length ∧ ∃ b o, a = some ⟨b, o, none⟩ ∧ ∀ i, (h : i < ps.length) → w.cell? ⟨b, o + i * 2, none⟩ = some (.int .i64 ps[i].1) ∧ w.cell? ⟨b, o + i * 2 + 1, none⟩ = some (.slice ps[i].2.1 ps[i].2.2.1 ps[i].2.2.2) := by
  obtain ⟨a', c', h1, h2⟩ := h
  simp only [Value.slice.injEq] at h1
  obtain ⟨rfl, rfl, rfl⟩ := h1
  exact ⟨rfl, h2 (fun e => by rw [e] at hn; exact absurd hn (Nat.lt_irrefl 0))⟩

set_option maxRecDepth 100000 in
set_option maxHeartbeats 1000000 in
theorem same_yes (a a' : Option Addr) (n c c' : Nat) (psA psB : List (Int × Sl)) (D : Nat → List Nat) (w : World) (hA : Ps w (.slice a n c) psA) (hB : Ps w (.slice a' n c') psB) (hn : n ≤ 1000000)
    (hix : ∀ i, (h : i < psA.length) → (h' : i < psB.length) → psA[i].1 = psB[i].1)
    (hDA : ∀ i, (h : i < psA.length) → Bs w (.slice psA[i].2.1 psA[i].2.2.1 psA[i].2.2.2) (D i))
    (hDB : ∀ i, (h : i < psB.length) → Bs w (.slice psB[i].2.1 psB[i].2.2.1 psB[i].2.2.2) (D i)) :
    Calls Tryd.prog 17 #[.slice a n c, .slice a' n c'] w fun e w' => e = .returned (.bool true) ∧ Below w.heap.size w w' := by
  have HA := hid hA
  have HB := hid hB
  have HIX := hid hix
  have HDA := hid hDA
  have HDB := hid hDB
  clear hA hB hix hDA hDB
  go_enter Tryd.func17, Tryd.ntmps17
  go_wp2
  go_loopw [5] (fun iv wr => ∃ i : Nat, i ≤ n ∧ iv = .int .i64 i ∧ Below w.heap.size w wr) (fun iv _ => n - (intOf iv).toNat)
  case atStart => exact ⟨0, by omega, rfl, Below.refl _ _⟩
  case round =>
    obtain ⟨i, hi, rfl, hb⟩ := hrel
    have HBEL := hid hb
    clear hb
    by_cases hlt : i < n
    · obtain ⟨hnA, bA, oA, rfl, hcA⟩ := ps_addr (HA.out.below HBEL.out) (by omega)
      obtain ⟨hnB, bB, oB, rfl, hcB⟩ := ps_addr (HB.out.below HBEL.out) (by omega)
      obtain ⟨a0, a1⟩ := hcA i (by omega)
      obtain ⟨b0, b1⟩ := hcB i (by omega)
      have hdA := (HDA.out i (by omega)).below HBEL.out
      have hdB := (HDB.out i (by omega)).below HBEL.out
      rw [HIX.out i (by omega) (by omega)] at a0
      generalize psB[i]'(by omega) = pB at *
      generalize psA[i]'(by omega) = pA at *
      have cvA := fun q => conv_bs (hdA.drewN q)
      have cvB := fun q => conv_bs (hdB.drewN q)
      generalize bstr (D i) = S at *
      clear hcA hcB hnA hnB hdA hdB
      go_wp2
      go_quiet (fail)
      go_wp2
      exact ⟨⟨i + 1, by omega, by go_num, bel_drewN HBEL.out nq⟩, by simp [intOf]; omega⟩
    · obtain rfl : i = n := by omega
      go_wp2
      go_ret
      exact ⟨rfl, HBEL.out⟩
end Go.Proofs.YtafkjfpmjhfofaaDoor

namespace Go.Proofs.YtafkjfpmjhfofaaDoor
open Go Go.RowKit
set_option linter.unusedVariables false

theorem info_manE : (Tryd.prog.info? 27).map (·.size) = some mz.size := by rw [mz_sizeO]; kernel_rfl
theorem mz_oneE : mz.all (·.oneCell') = true := mcells_one 0 0 0 0 _ none 0 0
/-- what a Make that refuses answers -/
def MkBad (w : World) (err : Int) (e : Ending) (w' : World) : Prop := e = .returned (.tuple #[.agg mz, .slice none 0 0, .int .i64 err]) ∧ Below w.heap.size w w'
theorem man_failE {w8 : World} {r0 : Nat} (hw8 : w8.heap[r0]? = some (.cells mz 27 (0, 0))) : (loadVar 27 ⟨r0, 0, none⟩).run Tryd.prog w8 = .ok (.agg mz) w8 :=
  run_loadVar_row _ _ 27 27 _ (0, 0) _ hw8 Tryd.underlying27 rfl info_manE

set_option maxRecDepth 100000 in
set_option maxHeartbeats 2000000 in
theorem make_bad (fb : Nat) (K N T : Int) (a : Option Addr) (m c : Nat) (w : World) (hv : vcB K N T = false) :
    Calls Tryd.prog 13 #[.pointer (some ⟨fb, 0, none⟩), .int .i64 K, .int .i64 N, .int .i64 T, .slice a m c] w fun e w' => MkBad w 2 e w' := by
  have hnot : ∀ (x : Bool) (w : World), (Op.unary .not (.bool x)).run Tryd.prog w = .ok (.bool (!x)) w := fun _ _ => rfl
  obtain ⟨w1, hw1⟩ : ∃ w1, w1 = w.alloc (.cells mz 27) := ⟨_, rfl⟩
  have HB1 := hid (show Below w.heap.size w w1 from by rw [hw1]; exact (Below.refl _ _).alloc (Nat.le_refl _) _)
  have HR1 := hid (show w1.heap[w.heap.size]? = some (.cells mz 27 (0, 0)) from by rw [hw1]; exact heap_new _ _)
  have HV := hid (fun w => validCounts_any K N T w)
  rw [hv] at HV
  clear hv
  go_enter Tryd.func13, Tryd.ntmps13
  go_upto_region 1 with fail
  change Code.wp _ _ _ _ (w.alloc (.cells mz 27))
  rw [← hw1]
  clear hw1

  go_wp2_with fail
  refine (HV.out w1).mono ?_
  rintro e w' ⟨rfl, rfl⟩

  go_wp2_with (refine wpList_store_row (by rfl) 27 (.tmp 10) (.tmp 26) (by rfl) w.heap.size _ mz _ (by rfl) (by first | rfl | kernel_rfl) HR1.out info_manE rfl mz_oneE ?_
               intro w8 hw8 hk8)
  exact bodyPost_ret (v := .tuple #[.agg mz, .slice none 0 0, .int .i64 2]) (results_at3 Tryd.results13 rfl (man_failE hw8) rfl rfl) rfl ⟨rfl, HB1.out.trans (hk8.below HB1.out.size (Nat.le_refl _))⟩

set_option maxRecDepth 100000 in
set_option maxHeartbeats 2000000 in
theorem make_long (fb : Nat) (K N T : Int) (a : Option Addr) (m c : Nat) (w : World) (hv : vcB K N T = true) (hm : 8192 < m) :
    Calls Tryd.prog 13 #[.pointer (some ⟨fb, 0, none⟩), .int .i64 K, .int .i64 N, .int .i64 T, .slice a m c] w fun e w' => MkBad w 3 e w' := by
  have hnot : ∀ (x : Bool) (w : World), (Op.unary .not (.bool x)).run Tryd.prog w = .ok (.bool (!x)) w := fun _ _ => rfl
  obtain ⟨w1, hw1⟩ : ∃ w1, w1 = w.alloc (.cells mz 27) := ⟨_, rfl⟩
  have HB1 := hid (show Below w.heap.size w w1 from by rw [hw1]; exact (Below.refl _ _).alloc (Nat.le_refl _) _)
  have HR1 := hid (show w1.heap[w.heap.size]? = some (.cells mz 27 (0, 0)) from by rw [hw1]; exact heap_new _ _)
  have HV := hid (fun w => validCounts_any K N T w)
  rw [hv] at HV
  have hk : 1 ≤ K ∧ K ≤ T ∧ T ≤ 255 := by unfold vcB at hv; simp only [decide_eq_true_eq] at hv; omega
  have HE := hid (fun w => Encode_long fb K T a m c hk.1 hk.2.1 hk.2.2 hm w)
  clear hv hk hm
  go_enter Tryd.func13, Tryd.ntmps13
  go_upto_region 1 with fail
  change Code.wp _ _ _ _ (w.alloc (.cells mz 27))
  rw [← hw1]
  clear hw1

  go_wp2_with fail
  refine (HV.out w1).mono ?_
  rintro e w' ⟨rfl, rfl⟩

  go_wp2_with fail
  refine (HE.out w1).mono ?_
  rintro e w' ⟨rfl, rfl⟩

  go_wp2_with (refine wpList_store_row (by rfl) 27 (.tmp 10) (.tmp 37) (by rfl) w.heap.size _ mz _ (by rfl) (by first | rfl | kernel_rfl) HR1.out info_manE rfl mz_oneE ?_
               intro w8 hw8 hk8)
  exact bodyPost_ret (v := .tuple #[.agg mz, .slice none 0 0, .int .i64 3]) (results_at3 Tryd.results13 rfl (man_failE hw8) rfl rfl) rfl ⟨rfl, HB1.out.trans (hk8.below HB1.out.size (Nat.le_refl _))⟩

set_option maxRecDepth 100000 in
set_option maxHeartbeats 2000000 in
theorem rmake_bad (K N T : Int) (a : Option Addr) (m c : Nat) (w : World) (hv : vcB K N T = false) :
    Calls Tryd.prog 15 #[.int .i64 K, .int .i64 N, .int .i64 T, .slice a m c] w fun e w' => MkBad w 2 e w' := by
  have hnot : ∀ (x : Bool) (w : World), (Op.unary .not (.bool x)).run Tryd.prog w = .ok (.bool (!x)) w := fun _ _ => rfl
  obtain ⟨w1, hw1⟩ : ∃ w1, w1 = w.alloc (.cells mz 27) := ⟨_, rfl⟩
  have HB1 := hid (show Below w.heap.size w w1 from by rw [hw1]; exact (Below.refl _ _).alloc (Nat.le_refl _) _)
  have HR1 := hid (show w1.heap[w.heap.size]? = some (.cells mz 27 (0, 0)) from by rw [hw1]; exact heap_new _ _)
  have HV := hid (fun w => sizes_any K N T w)
  rw [hv] at HV
  clear hv
  go_enter Tryd.func15, Tryd.ntmps15
  go_upto_region 1 with fail
  change Code.wp _ _ _ _ (w.alloc (.cells mz 27))
  rw [← hw1]
  clear hw1

  go_wp2_with fail
  refine (HV.out w1).mono ?_
  rintro e w' ⟨rfl, rfl⟩

  go_wp2_with (refine wpList_store_row (by rfl) 27 (.tmp 8) (.tmp 20) (by rfl) w.heap.size _ mz _ (by rfl) (by first | rfl | kernel_rfl) HR1.out info_manE rfl mz_oneE ?_
               intro w8 hw8 hk8)
  exact bodyPost_ret (v := .tuple #[.agg mz, .slice none 0 0, .int .i64 2]) (results_at3 Tryd.results15 rfl (man_failE hw8) rfl rfl) rfl ⟨rfl, HB1.out.trans (hk8.below HB1.out.size (Nat.le_refl _))⟩

set_option maxRecDepth 100000 in
set_option maxHeartbeats 2000000 in
theorem rmake_long (K N T : Int) (a : Option Addr) (m c : Nat) (w : World) (hv : vcB K N T = true) (hm : 8192 < m) :
    Calls Tryd.prog 15 #[.int .i64 K, .int .i64 N, .int .i64 T, .slice a m c] w fun e w' => MkBad w 3 e w' := by
  have hnot : ∀ (x : Bool) (w : World), (Op.unary .not (.bool x)).run Tryd.prog w = .ok (.bool (!x)) w := fun _ _ => rfl
  obtain ⟨w1, hw1⟩ : ∃ w1, w1 = w.alloc (.cells mz 27) := ⟨_, rfl⟩
  have HB1 := hid (show Below w.heap.size w w1 from by rw [hw1]; exact (Below.refl _ _).alloc (Nat.le_refl _) _)
  have HR1 := hid (show w1.heap[w.heap.size]? = some (.cells mz 27 (0, 0)) from by rw [hw1]; exact heap_new _ _)
  have HV := hid (fun w => sizes_any K N T w)
  rw [hv] at HV
  have j1 : 8192 < (m : Int) := by omega
  clear hv hm
  go_enter Tryd.func15, Tryd.ntmps15
  go_upto_region 1 with fail
  change Code.wp _ _ _ _ (w.alloc (.cells mz 27))
  rw [← hw1]
  clear hw1

  go_wp2_with fail
  refine (HV.out w1).mono ?_
  rintro e w' ⟨rfl, rfl⟩

  go_wp2_with (refine wpList_store_row (by rfl) 27 (.tmp 8) (.tmp 24) (by rfl) w.heap.size _ mz _ (by rfl) (by first | rfl | kernel_rfl) HR1.out info_manE rfl mz_oneE ?_
               intro w8 hw8 hk8)
  exact bodyPost_ret (v := .tuple #[.agg mz, .slice none 0 0, .int .i64 3]) (results_at3 Tryd.results15 rfl (man_failE hw8) rfl rfl) rfl ⟨rfl, HB1.out.trans (hk8.below HB1.out.size (Nat.le_refl _))⟩

end Go.Proofs.YtafkjfpmjhfofaaDoor

namespace Go.Proofs.YtafkjfpmjhfofaaDoor
open Go Go.RowKit
set_option linter.unusedVariables false

theorem owns_belowM {w w' : World} {base m s : Nat} {e : TypeId} {v : Value} {xs : List Value} (h : w.ownsRow base e s v m xs) (k : Below w.heap.size w w') : w'.ownsRow base e s v m xs := by
  obtain ⟨h1, h2⟩ := h
  exact ⟨h1, h2.imp id fun ⟨g, cap, cur, h3, h4, h5, r⟩ => ⟨g, cap, cur, h3, h4, (k.block g (lt_of_heap h5)).trans h5, r⟩⟩
theorem fill_digM (E : List Nat) (hE : E.length = 32) : List.foldl (fun (cs : Array Value) (x : Value × Nat) => cs.setIfInBounds x.snd x.fst) #[.int .u8 0, .int .u8 0, .int .u8 0, .int .u8 0, .int .u8 0, .int .u8 0, .int .u8 0, .int .u8 0, .int .u8 0, .int .u8 0, .int .u8 0, .int .u8 0, .int .u8 0, .int .u8 0, .int .u8 0, .int .u8 0, .int .u8 0, .int .u8 0, .int .u8 0, .int .u8 0, .int .u8 0, .int .u8 0, .int .u8 0, .int .u8 0, .int .u8 0, .int .u8 0, .int .u8 0, .int .u8 0, .int .u8 0, .int .u8 0, .int .u8 0, .int .u8 0] (u8s E).zipIdx = (u8s E).toArray := by
  obtain ⟨x0, x1, x2, x3, x4, x5, x6, x7, x8, x9, x10, x11, x12, x13, x14, x15, x16, x17, x18, x19, x20, x21, x22, x23, x24, x25, x26, x27, x28, x29, x30, x31, rfl⟩ := list32 E hE
  kernel_rfl
/-- one digest appended to an own row, as a step of a region -/
theorem step_dig_liesM {ops : Array Oper} {o : Oper} {a : Act} {w : World} {K : Act → World → Prop} {Q : Exit → Act → World → Prop} {E : Prop} (hgd : o.guard = none) (s x : Operand)
    (ho : o.op = .call { callee := .builtin .append, args := #[s, x], argTypes := #[25, 25] }) (base n0 : Nat) (v0 : Value) (X : List Value) (hs : a.eval s = v0) (hown : w.ownsRow base 24 32 v0 n0 X)
    (sb : Nat) (d : List Nat) (hx : a.eval x = .slice (some ⟨sb, 0, none⟩) 1 1) (hb : w.heap[sb]? = some (.cells (u8s d).toArray 24 (0, 0))) (hd : d.length = 32) (hn : n0 ≤ 100000) (hbase : base ≤ w.heap.size)
    (hK : ∀ g cap w', w'.ownsRow base 24 32 (.slice (some ⟨g, 0, none⟩) (n0 + 1) cap) (n0 + 1) (X ++ u8s d) → w.grownBy w' v0.ownBlock → g < w'.heap.size → K (a.put o.dst (.slice (some ⟨g, 0, none⟩) (n0 + 1) cap)) w') :
    if Region.wanted o (yielded ops a.tmps) = true then Oper.wp Tryd.prog o a w K Q else E := by
  have hw : Region.wanted o (yielded ops a.tmps) = true := by simp [Region.wanted, hgd]
  rw [if_pos hw]
  obtain ⟨i0, hi, hz0, hz1, hz2⟩ := info_parts info52
  refine wp_append_lies w s x _ ho base 24 i0 _ 32 32 Tryd.underlying25 hi hz0 hz1 hz2 (by rfl) (by decide) _ n0 X hs hown ⟨sb, 0, none⟩ 1 1 (u8s d) hx (by simp [u8s, hd]) (fun j u hu => World.news_of_block hb j u (by simpa using hu)) (u8s_oneH d) (by decide) (by unfold maxLen; omega) (by omega) hbase _ rfl ?_
  intro g cap w' hown' hg _ hlt
  exact hK g cap w' hown' hg hlt


theorem map_fiveM (x0 x1 x2 x3 x4 : Operand) (f : Operand → Value) : ((#[(0, x0), (1, x1), (2, x2), (3, x3), (4, x4)] : Array (Nat × Operand)).map fun (i, x) => (i, f x)).toList = [(0, f x0), (1, f x1), (2, f x2), (3, f x3), (4, f x4)] := by simp
theorem built_man5 (k n t s : Int) (D : List Nat) (hD : D.length = 32) : Tryd.prog.built 27 [(0, .int .i64 k), (1, .int .i64 n), (2, .int .i64 t), (3, .int .i64 s), (4, .agg (u8s D).toArray)] = some (mcells k n t s D (.slice none 0 0)).toArray := by
  obtain ⟨x0, x1, x2, x3, x4, x5, x6, x7, x8, x9, x10, x11, x12, x13, x14, x15, x16, x17, x18, x19, x20, x21, x22, x23, x24, x25, x26, x27, x28, x29, x30, x31, rfl⟩ := list32 D hD
  kernel_rfl
/-- the making of a manifest without digests, as one step -/
theorem wpList_build5 {ops : Array Oper} {rest : List Oper} {o : Oper} {a : Act} {w : World} {Q : Exit → Act → World → Prop} (hgd : o.guard = none) (x0 x1 x2 x3 x4 : Operand) (ho : o.op = .build 27 #[(0, x0), (1, x1), (2, x2), (3, x3), (4, x4)]) (k n t s : Int) (D : List Nat) (hD : D.length = 32)
    (h0 : a.eval x0 = .int .i64 k) (h1 : a.eval x1 = .int .i64 n) (h2 : a.eval x2 = .int .i64 t) (h3 : a.eval x3 = .int .i64 s) (h4 : a.eval x4 = .agg (u8s D).toArray)
    (hK : wpList Tryd.prog ops Q rest (a.put o.dst (.agg (mcells k n t s D (.slice none 0 0)).toArray)) w) : wpList Tryd.prog ops Q (o :: rest) a w := by
  refine wpList_plain hgd fun _ hK' => ?_
  have hv := map_fiveM x0 x1 x2 x3 x4 a.eval
  rw [h0, h1, h2, h3, h4] at hv
  have hp := built_man5 k n t s D hD
  rw [← hv] at hp
  have h := run_build (P := Tryd.prog) w 27 _ _ hp
  unfold Oper.wp execOp
  simp only [ho, Sem.run_bind, h, Result.andThen_ok, Sem.run_pure]
  exact hK' _ _ hK
theorem dcl_snocM (D : List (List Nat)) (d : List Nat) : dcl (D ++ [d]) = dcl D ++ u8s d := by
  unfold dcl
  simp
/-- what the loop of the reference's Make keeps -/
structure RmL (w0 wr : World) (r0 mb : Nat) (k n t s : Int) (D : List Nat) (F : Nat → List Nat) (i : Nat) (v : Value) : Prop where
  res : wr.heap[r0]? = some (.cells mz 27 (0, 0))
  man : ManAt wr mb k n t s D v
  own : wr.ownsRow (mb + 1) 24 32 v i (dcl ((List.range i).map F))
  bel : Below w0.heap.size w0 wr
  low : r0 < w0.heap.size ∧ w0.heap.size ≤ mb
theorem RmL.far {w0 wr w5 w6 : World} {r0 mb : Nat} {k n t s : Int} {D : List Nat} {F : Nat → List Nat} {i : Nat} {v : Value} (h : RmL w0 wr r0 mb k n t s D F i v) (hb : Below wr.drew.heap.size wr.drew w5) {ob : Obj} (hg : (w5.alloc ob).grownBy w6 v.ownBlock) :
    ∀ q, q ≤ mb → w6.heap[q]? = wr.heap[q]? := fun q hq => by
  have hm : mb < wr.heap.size := lt_of_heap h.man
  have h5 : wr.heap.size ≤ w5.heap.size := hb.size
  refine (hg.block q (by simp; omega) (fun e => ?_)).trans ((heap_alloc_old _ _ (by omega)).trans (hb.block q (show q < wr.heap.size from by omega)))
  have := (h.own.lt q e.symm).1
  omega
theorem RmL.step {w0 wr w5 w6 : World} {r0 mb : Nat} {k n t s : Int} {D : List Nat} {F : Nat → List Nat} {i : Nat} {v : Value} (h : RmL w0 wr r0 mb k n t s D F i v) (hD : D.length = 32) (hb : Below wr.drew.heap.size wr.drew w5) {ob : Obj} (hg : (w5.alloc ob).grownBy w6 v.ownBlock)
    {g cp : Nat} (ho : w6.ownsRow (mb + 1) 24 32 (.slice (some ⟨g, 0, none⟩) (i + 1) cp) (i + 1) (dcl ((List.range i).map F) ++ u8s (F i))) :
    RmL w0 (w6.setCell ⟨mb, 36, none⟩ (.slice (some ⟨g, 0, none⟩) (i + 1) cp)) r0 mb k n t s D F (i + 1) (.slice (some ⟨g, 0, none⟩) (i + 1) cp) := by
  have hf := RmL.far h hb hg
  have hm6 : ManAt w6 mb k n t s D v := (hf mb (Nat.le_refl _)).trans h.man
  have hl := h.low
  have h5 : wr.heap.size ≤ w5.heap.size := hb.size
  have hbel : Below w0.heap.size w0 w6 := by
    have h1 : Below w0.heap.size w0 wr.drew := h.bel.trans (bel_drewN (Below.refl _ _) 1)
    have h2 : Below w0.heap.size w0 w5 := h1.trans (hb.mono h1.size)
    exact (h2.alloc h2.size ob).grown hg (by have := h2.size; simp; omega) (fun q e => by have := (h.own.lt q e).1; omega)
  refine ⟨(Below.heap_setCell _ _ _ _ (by show r0 ≠ mb; omega)).trans ((hf r0 (by omega)).trans h.res), man_rowO hm6 hD _, ?_, hbel.trans (((Kept.refl mb w6).setCell (p := ⟨mb, 36, none⟩) rfl _).below hbel.size (by omega)), hl⟩
  rw [List.range_succ, List.map_append, List.map_cons, List.map_nil, dcl_snocM]
  exact ownsRow_setCell_below ho (show mb < mb + 1 from by omega) _
theorem psM {B L k t : Nat} {bf : Nat → Nat} {d : List Nat} {w wr : World} {v : Value} (h : RSInv B L k bf d w wr v t) (ht : 1 ≤ t) : ∃ g c, v = .slice (some ⟨g, 0, none⟩) t c ∧ B ≤ g ∧ Ps wr (.slice (some ⟨g, 0, none⟩) t c) (mkps bf L t t) := by
  have h0 := h.own
  obtain ⟨_, h2⟩ := h.own
  rcases h2 with ⟨_, h3⟩ | ⟨g, cap, cur, rfl, hg, _⟩
  · omega
  · refine ⟨g, cap, rfl, hg, ?_⟩
    have h4 := ps_of_owns (c := cap) h0 (show t ≤ (mkps bf L t t).length by rw [mkps_length]; exact Nat.le_refl _)
    rwa [List.take_of_length_le (by rw [mkps_length]; exact Nat.le_refl _)] at h4
theorem row_bsM {w : World} {b : Nat} {d : List Nat} {k L i : Nat} (hd : ∀ i, d.getD i 0 < 256) (h : Own w b (encP d k L i)) : Bs w (.slice (some ⟨b, 0, none⟩) L L) (encP d k L i) := by
  have h5 := h.bs (encM_lt d hd k L i) L
  rwa [encM_length] at h5
theorem hilo_pdg (l : List Nat) (k L j : Nat) (hj : j ≤ 255) : dig shaRound shaStart ([hi8 (j : Int), lo8 (j : Int)] ++ encP l k L j) = pdg shaRound shaStart l k L j := by
  have e1 : hi8 (j : Int) = j / 256 := by unfold hi8; omega
  have e2 : lo8 (j : Int) = j % 256 := by unfold lo8; omega
  rw [e1, e2]
  rfl
theorem digL_lt2 (h : List Nat) : ∀ x ∈ digL h, x < 256 := fun x hx => by
  unfold digL at hx
  obtain ⟨p, _, rfl⟩ := List.mem_map.1 hx
  exact Nat.mod_lt _ (by decide)
theorem digL_lt3 {KC SH m : List Nat} (l : Unit) : ∀ x ∈ dig KC SH m, x < 256 := digL_lt2 _
theorem rs_move {B B' L k t r0 : Nat} {bf : Nat → Nat} {d : List Nat} {w1 w w3 wr w8 : World} {v : Value} (h : RSInv B L k bf d w1 w3 v t) (hB : B' ≤ B) (hw : Below w3.heap.size w3 wr) (hk : Kept r0 wr w8) (hr : r0 < B) (hm : w3.heap[r0]? = some (.cells mz 27 (0, 0))) (hbel : Below B' w w8) : RSInv B' L k bf d w w8 v t := by
  have hb : ∀ q, q < w3.heap.size → q ≠ r0 → w8.heap[q]? = w3.heap[q]? := fun q hq hne => (hk.block q (Nat.lt_of_lt_of_le hq hw.size) hne).trans (hw.block q hq)
  refine ⟨⟨h.own.1, ?_⟩, fun j hj => ?_, hbel⟩
  · rcases h.own.2 with h2 | ⟨q, cap, cur, h1, h2, h3, h4⟩
    · exact .inl h2
    · exact .inr ⟨q, cap, cur, h1, Nat.le_trans hB h2, (hb q (lt_of_heap h3) (by omega)).trans h3, h4⟩
  · have h5 := h.rows j hj
    refine (hb _ h5.lt (fun e => ?_)).trans h5
    have h6 := h5
    unfold Own at h6
    rw [e, hm] at h6
    simp at h6
/-- what the reference's Make answers where its arguments are right -/
def RmTo (w : World) (k n t m : Nat) (l : List Nat) (e : Ending) (w' : World) : Prop :=
  ∃ gd cp v bf, e = .returned (.tuple #[.agg (mcells k n t m (dig shaRound shaStart l) (.slice (some ⟨gd, 0, none⟩) t cp)).toArray, v, .int .i64 0]) ∧ Dgs w' (some ⟨gd, 0, none⟩) t cp ((List.range t).map fun j => pdg shaRound shaStart l k (plen k m) j) ∧ RSInv w.heap.size (plen k m) k bf l w w' v t ∧ Below w.heap.size w w'

set_option maxRecDepth 100000 in
set_option maxHeartbeats 4000000 in
theorem rmake_ok (k n t m c : Nat) (a : Option Addr) (l : List Nat) (w : World) (V : Rnds w) (hd : Bs w (.slice a m c) l) (hnil : a = none → c = 0) (h1 : 1 ≤ k) (h2 : k ≤ n) (h3 : n ≤ t) (h4 : t ≤ 255) (h5 : m ≤ 8192) :
    Calls Tryd.prog 15 #[.int .i64 (k : Int), .int .i64 (n : Int), .int .i64 (t : Int), .slice a m c] w fun e w' => RmTo w k n t m l e w' := by
  have hnot : ∀ (x : Bool) (w : World), (Op.unary .not (.bool x)).run Tryd.prog w = .ok (.bool (!x)) w := fun _ _ => rfl
  obtain ⟨w1, hw1⟩ : ∃ w1, w1 = w.alloc (.cells mz 27) := ⟨_, rfl⟩
  have HB1 := hid (show Below w.heap.size w w1 from by rw [hw1]; exact (Below.refl _ _).alloc (Nat.le_refl _) _)
  have HR1 := hid (show w1.heap[w.heap.size]? = some (.cells mz 27 (0, 0)) from by rw [hw1]; exact heap_new _ _)
  have HV := hid (fun w => sizes_any (k : Int) (n : Int) (t : Int) w)
  rw [show vcB (k : Int) (n : Int) (t : Int) = true from by unfold vcB; exact decide_eq_true ⟨by omega, by omega, by omega, by omega⟩] at HV
  have HSP := hid (rsplit_any k t a m c l w1 (hd.below HB1.out) h1 (by omega) h4 h5)
  have HD := hid hd
  have HDL := hid hd.lt
  have HVV := hid V
  have HNIL := hid hnil
  have j1 : ¬ 8192 < (m : Int) := by omega
  clear hd V hnil
  go_enter Tryd.func15, Tryd.ntmps15
  go_upto_region 1 with fail
  change Code.wp _ _ _ _ (w.alloc (.cells mz 27))
  rw [← hw1]
  clear hw1
  go_wp2_with fail
  refine (HV.out w1).mono ?_
  rintro e w' ⟨rfl, rfl⟩
  go_wp2_with fail
  refine HSP.out.mono ?_
  rintro e w3 ⟨v3, bf, rfl, hS⟩
  obtain ⟨pg, pcap, rfl, hpg, hps⟩ := psM hS (by omega)
  have HS3 := hid hS
  have HPS := hid hps
  have HB3 := hid (HB1.out.trans (hS.below.mono HB1.out.size))
  have HR3 := hid ((hS.below.block _ (lt_of_heap HR1.out)).trans HR1.out)
  clear hS hps HSP HV hpg
  go_wp2_with fail
  refine (rsum_any l a m c w3 (HVV.out.below HB3.out) (HD.out.below HB3.out) HNIL.out (by omega)).mono ?_
  rintro e w4 ⟨rfl, hb4⟩
  have HB4 := hid (HB3.out.trans (hb4.mono HB3.out.size))
  have HR4 := hid ((hb4.block _ (lt_of_heap HR3.out)).trans HR3.out)
  have HB34 := hid hb4
  clear hb4
  have hD0 := dig_length shaRound shaStart l
  obtain ⟨DG, hDG⟩ : ∃ DG, DG = dig shaRound shaStart l := ⟨_, rfl⟩
  have HDG := hid (fun (_ : Unit) => hDG)
  rw [← hDG] at hD0 ⊢
  have HD0 := hid hD0
  have HML := hid (mcells_length (k : Int) (n : Int) (t : Int) (m : Int) DG (.slice none 0 0) hD0)
  have HON := hid (mcells_one (k : Int) (n : Int) (t : Int) (m : Int) DG none 0 0)
  have HIF := hid (show (Tryd.prog.info? 27).map (·.size) = some (mcells (k : Int) (n : Int) (t : Int) (m : Int) DG (.slice none 0 0)).toArray.size from by rw [List.size_toArray, HML.out]; kernel_rfl)
  have HSZ := hid (show mz.size = (mcells (k : Int) (n : Int) (t : Int) (m : Int) DG (.slice none 0 0)).toArray.size from by rw [mz_sizeO, List.size_toArray, HML.out])
  have HPM := hid (fun (MV : List Value) (h : MV = mcells (k : Int) (n : Int) (t : Int) (m : Int) DG (.slice none 0 0)) => h)
  clear hDG hD0
  go_wp2_with (first
    | (refine wpList_build5 (by rfl) (.tmp 32) (.tmp 33) (.tmp 34) (.tmp 36) (.tmp 38) (by rfl) (k : Int) (n : Int) (t : Int) (m : Int) DG HD0.out (by rfl) (by rfl) (by rfl) (by rfl) (by rfl) ?_)
    | (refine wpList_store_row (by rfl) 27 (.tmp 13) (.tmp 39) (by rfl) w4.heap.size mz (mcells (k : Int) (n : Int) (t : Int) (m : Int) DG (.slice none 0 0)).toArray 27 (by rfl) (by rfl) (by exact heap_new w4 _) HIF.out HSZ.out HON.out ?_
       intro w5 hw5 hk5
       have HB45 := hid (show Below w4.heap.size w4 w5 from ((Below.refl _ _).alloc (Nat.le_refl _) _).trans (hk5.below (by simp) (Nat.le_refl _)))
       have HM5 := hid hw5
       clear hw5 hk5))
  have hr3 := lt_of_heap HR4.out
  have HL0 := hid (show RmL w4 w5 w.heap.size w4.heap.size (k : Int) (n : Int) (t : Int) (m : Int) DG (fun j => pdg shaRound shaStart l k (plen k m) j) 0 (.slice none 0 0) from
    ⟨(HB45.out.block _ hr3).trans HR4.out, HM5.out, ⟨rfl, .inl ⟨rfl, rfl⟩⟩, HB45.out, hr3, Nat.le_refl _⟩)
  obtain ⟨mb, hmb⟩ : ∃ y, y = w4.heap.size := ⟨_, rfl⟩
  rw [← hmb] at HL0
  rw [← hmb]
  clear hmb hr3 HM5 HB45 HON HIF HSZ HML HPM
  generalize hF : (fun j => pdg shaRound shaStart l k (plen k m) j) = F at *
  have HF := hid hF
  clear hF
  generalize hL : plen k m = L at *
  have HLL := hid hL
  clear hL
  go_loopw [14] (fun iv wr => ∃ (i : Nat) (v : Value), i ≤ t ∧ iv = .int .i64 i ∧ Hid (RmL w4 wr w.heap.size mb (k : Int) (n : Int) (t : Int) (m : Int) DG F i v)) (fun iv _ => t - (intOf iv).toNat)
  case atStart => exact ⟨0, _, by omega, rfl, HL0⟩
  case round =>
    clear HL0
    obtain ⟨i, v, hi, rfl, HL⟩ := hrel
    by_cases hit : i < t
    case pos => as_aux_lemma =>
      have hI : (i : Int) < (t : Int) := by omega
      have hil : i < (mkps bf L t t).length := by rw [mkps_length]; exact hit
      have HBE3 := hid (HB34.out.trans (HL.out.bel.mono HB34.out.size))
      obtain ⟨q0, q1⟩ := (HPS.out.below HBE3.out).cells i hil
      rw [mkps_get bf L t t i hil hit] at q0 q1
      simp only [Nat.zero_add] at q0 q1
      have d36 : wr.cell? ⟨mb, 36, none⟩ = some v := (HL.out.man.c HD0.out).2.2.2.2
      have HDW := hid (show Below wr.heap.size wr wr.drew from bel_drewN (Below.refl _ _) 1)
      have HPD := hid (fun (wx : World) (b : Below wr.heap.size wr wx) => (show Calls Tryd.prog 19 #[.int .i64 (i : Int), .slice (some ⟨bf i, 0, none⟩) L L] wx (fun e w' => e = .returned (.agg (u8s (F i)).toArray) ∧ Below wx.heap.size wx w') from by
        have hw : Below w3.heap.size w3 wx := HBE3.out.trans (b.mono HBE3.out.size)
        have hrow := (HS3.out.rows i hit).below hw (HS3.out.rows i hit).lt
        have h := ofp_any (i : Int) (encP l k L i) (some ⟨bf i, 0, none⟩) L L wx (HVV.out.below (HB3.out.trans (hw.mono HB3.out.size))) (row_bsM HDL.out hrow) (fun e => by cases e) (by have := plen_le k m h1; rw [HLL.out] at this; omega)
        rw [← HF.out]
        show Calls _ _ _ _ (fun e w' => e = .returned (.agg (u8s (pdg shaRound shaStart l k L i)).toArray) ∧ Below wx.heap.size wx w')
        rw [← hilo_pdg l k L i (by omega)]
        exact h))
      have HSTP := hid (fun (w5 : World) (b : Below wr.drew.heap.size wr.drew w5) (ob : Obj) (g cp : Nat) (w6 : World) (ho : w6.ownsRow (mb + 1) 24 32 (.slice (some ⟨g, 0, none⟩) (i + 1) cp) (i + 1) (dcl ((List.range i).map F) ++ u8s (F i))) (hg : (w5.alloc ob).grownBy w6 v.ownBlock) => RmL.step HL.out HD0.out b hg ho)
      have HFA := hid (fun (w5 : World) (b : Below wr.drew.heap.size wr.drew w5) (ob : Obj) (w6 : World) (hg : (w5.alloc ob).grownBy w6 v.ownBlock) => RmL.far HL.out b hg)
      have HOWN := hid HL.out.own
      have hE32 : (F i).length = 32 := by rw [← HF.out]; exact dig_length _ _ _
      have BS := fill_digM (F i) hE32
      have hEl : (u8s (F i)).length = 32 := by simp [u8s, hE32]
      generalize F i = E at *
      generalize dcl ((List.range i).map F) = X at *
      have HE32 := hid hE32
      have hmbl : mb < wr.heap.size := lt_of_heap HL.out.man
      have f36 : wr.frozen? ⟨mb, 36, none⟩ = false := free_of_heap HL.out.man 36
      have HKC := hid (fun (w5 : World) (b : Below wr.drew.heap.size wr.drew w5) => (show w5.cell? ⟨mb, 36, none⟩ = some v from (World.cell?_of_block (a := ⟨mb, 36, none⟩) (b.block mb (by simpa using hmbl))).trans d36))
      have HKA := hid (fun (w5 : World) (b : Below wr.drew.heap.size wr.drew w5) (ob : Obj) => (show (w5.alloc ob).cell? ⟨mb, 36, none⟩ = some v from (World.cell?_of_block (a := ⟨mb, 36, none⟩) (heap_alloc_old _ _ (Nat.lt_of_lt_of_le hmbl (by simpa using b.size)))).trans (HKC.out w5 b)))
      have HP := hid (fun (w5 : World) (b : Below wr.drew.heap.size wr.drew w5) (ob : Obj) (w6 : World) (hg : (w5.alloc ob).grownBy w6 v.ownBlock) => (show w6.cell? ⟨mb, 36, none⟩ = some v ∧ w6.frozen? ⟨mb, 36, none⟩ = false from
        ⟨(World.cell?_of_block (a := ⟨mb, 36, none⟩) (HFA.out w5 b ob w6 hg mb (Nat.le_refl _))).trans d36, (World.frozen?_of_block (a := ⟨mb, 36, none⟩) (HFA.out w5 b ob w6 hg mb (Nat.le_refl _))).trans f36⟩))
      have HOW := hid (fun (w5 : World) (b : Below wr.drew.heap.size wr.drew w5) (ob : Obj) => (show (w5.alloc ob).ownsRow (mb + 1) 24 32 v i X from
        (owns_belowM HOWN.out (HDW.out.trans b)).alloc _))
      have HBE := hid (fun (w5 : World) (b : Below wr.drew.heap.size wr.drew w5) (ob : Obj) => (show mb + 1 ≤ (w5.alloc ob).heap.size from by have h := b.size; simp at h ⊢; omega))
      generalize bf i = bi at *
      clear hE32 hil
      go_wp2
      go_region_law (first
        | (go_simp
           go_at_call 19
           refine (HPD.out _ HDW.out).mono ?_
           rintro e w5 ⟨rfl, hb5⟩
           have K1 := HKC.out w5 hb5
           have K2 := HKA.out w5 hb5)
        | (refine step_dig_liesM (by rfl) (.tmp 46) (.tmp 54) (by rfl) (mb + 1) i v X (by rfl) (HOW.out w5 hb5 _) w5.heap.size E (by rfl) (by exact heap_new _ _) HE32.out (by omega) (HBE.out w5 hb5 _) ?_
           intro g6 c6 w6 hown6 hg6 hlt6
           have hk5 := HP.out w5 hb5 _ w6 hg6
           have k61 := hk5.1
           have k62 := hk5.2
           clear hk5))
      all_goals
        have HL2 := hid (HSTP.out w5 hb5 _ _ _ w6 hown6 hg6)
        clear hown6 hg6 hb5 K1 K2
        go_wp2
        exact ⟨⟨i + 1, _, by omega, by go_num, HL2⟩, by simp [intOf]; omega⟩
    case neg => as_aux_lemma =>
      obtain rfl : i = t := by omega
      have hI : ¬ ((i : Int) < (i : Int)) := by omega
      obtain ⟨gd, cp, rfl, hgl, hglt⟩ := World.ownsRow.form HL.out.own (by omega)
      have HDG2 := hid (dgs_of_owns HL.out.own (fun d hd => by
        obtain ⟨j, _, rfl⟩ := List.mem_map.1 hd
        rw [← HF.out]
        exact ⟨dig_length _ _ _, digL_lt3 ()⟩) (by simp))
      have HRA := hid (show wr.rangeAt mb 0 (mcells (k : Int) (n : Int) (i : Int) (m : Int) DG (.slice (some ⟨gd, 0, none⟩) i cp)) from range_of_heapI HL.out.man)
      have HML2 := hid (mcells_length (k : Int) (n : Int) (i : Int) (m : Int) DG (.slice (some ⟨gd, 0, none⟩) i cp) HD0.out)
      have HON2 := hid (mcells_one (k : Int) (n : Int) (i : Int) (m : Int) DG (some ⟨gd, 0, none⟩) i cp)
      generalize hM2 : mcells (k : Int) (n : Int) (i : Int) (m : Int) DG (.slice (some ⟨gd, 0, none⟩) i cp) = M2 at *
      have HM2 := hid hM2
      have HIFa := hid (show (Tryd.prog.info? 27).map (·.size) = some M2.length from by rw [HML2.out]; kernel_rfl)
      have HIFb := hid (show (Tryd.prog.info? 27).map (·.size) = some M2.toArray.size from by rw [List.size_toArray, HML2.out]; kernel_rfl)
      have HSZb := hid (show mz.size = M2.toArray.size from by rw [mz_sizeO]; rw [List.size_toArray, HML2.out])
      have hlow := HL.out.low
      clear hM2
      go_wp2_with (first
        | (refine wpList_load_mid (by rfl) 27 (.tmp 13) (by rfl) mb 0 (by rfl) M2 _ HRA.out Tryd.underlying27 rfl HIFa.out ?_)
        | (refine wpList_store_row (by rfl) 27 (.tmp 8) (.tmp 57) (by rfl) w.heap.size _ M2.toArray _ (by rfl) (by rfl) HL.out.res HIFb.out HSZb.out HON2.out ?_
           intro w8 hw8 hk8))
      have hres := run_loadVar_row (P := Tryd.prog) _ _ 27 27 _ (0, 0) _ hw8 Tryd.underlying27 rfl HIFb.out
      have hne : gd ≠ w.heap.size := by omega
      have h38 : Below w3.heap.size w3 wr := HB34.out.trans (HL.out.bel.mono HB34.out.size)
      have hs13 := HB1.out.size
      have hs13' := lt_of_heap HR1.out
      refine bodyPost_ret (v := .tuple #[.agg M2.toArray, .slice (some ⟨pg, 0, none⟩) i pcap, .int .i64 0]) (results_at3 Tryd.results15 rfl hres rfl rfl) rfl ⟨gd, cp, .slice (some ⟨pg, 0, none⟩) i pcap, bf, ?_, ?_, ?_, ?_⟩
      · rw [← HM2.out, HDG.out ()]
      · obtain ⟨a', c', e, hd, _⟩ := HDG2.out
        cases e
        rw [show (fun j => pdg shaRound shaStart l k (plen k m) j) = F from by rw [← HF.out, HLL.out]]
        exact hd.kept hk8 (fun ad e => by cases e; exact hne)
      · rw [HLL.out]
        exact rs_move HS3.out hs13 h38 hk8 hs13' HR3.out ((HB3.out.trans (h38.mono HB3.out.size)).trans (hk8.below (Nat.le_trans HB3.out.size h38.size) (Nat.le_refl _)))
      · exact (HB3.out.trans (h38.mono HB3.out.size)).trans (hk8.below (Nat.le_trans HB3.out.size h38.size) (Nat.le_refl _))
end Go.Proofs.YtafkjfpmjhfofaaDoor
