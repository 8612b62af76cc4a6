/-
  Interpolate: the coefficients of the polynomial through points.
-/
import Derived.Test.YtfleplbdcpdphaaVan
import Derived.Test.YtfleplbdcpdphaaPt
import Derived.Test.YtfleplbdcpdphaaOnce
namespace Go.Proofs.Ytfleplbdcpdphaa
open Go Go.RowKit
set_option linter.unusedVariables false

/-- the points stand for every later world that keeps all but the field -/
def HeldPt (fb : Nat) (w : World) (v : Value) (X Y : List Nat) : Prop := ∀ w', Kept fb w w' → Pt w' v X Y
/-- the sum after i points -/
def ipTo (X Y : List Nat) (i : Nat) : List Nat := (List.range X.length).map fun j => sx (fun i => Gf.tm (Gf.tm (Y.getD i 0) (scale X i)) (VS X i X.length j)) i
theorem cf_vfL (X : List Nat) (k : Nat) : cf (vfL X k) = VF X k := by
  funext j
  unfold cf vfL
  rw [rangeF_getD]
  split
  · rfl
  · rw [VF_high X k j (by omega)]
theorem ipTo_length (X Y : List Nat) (i : Nat) : (ipTo X Y i).length = X.length := by simp [ipTo]
theorem ipTo_lt (X Y : List Nat) (hY : ∀ i, Y.getD i 0 < 256) (i j : Nat) : (ipTo X Y i).getD j 0 < 256 := by
  unfold ipTo
  rw [rangeF_getD]
  split
  · exact sx_lt _ (fun i => Gf.tm_lt _ _ (Gf.tm_lt _ _ (hY i))) i
  · omega
theorem ipTo_zero (X Y : List Nat) : ipTo X Y 0 = List.replicate X.length 0 := by
  apply getD_ext'
  · simp [ipTo]
  · intro j
    unfold ipTo
    rw [rangeF_getD, List.getD_eq_getElem?_getD, List.getElem?_replicate]
    by_cases h : j < X.length
    · rw [if_pos h, if_pos h]; rfl
    · rw [if_neg h, if_neg h]; rfl
theorem ipTo_all (X Y : List Nat) : ipTo X Y X.length = (List.range X.length).map (ipC X fun i => Y.getD i 0) := rfl
theorem ipTo_step (X Y : List Nat) (hX : ∀ i, X.getD i 0 < 256) (i : Nat) (hi : i < X.length) : aqTo (ipTo X Y i) (vfL X X.length) (X.getD i 0) (Gf.tm (Y.getD i 0) (scale X i)) X.length X.length = ipTo X Y (i + 1) := by
  apply getD_ext'
  · rw [aqTo_length, ipTo_length, ipTo_length]
  · intro j
    rw [aqTo_getD _ _ _ _ _ (ipTo_length X Y i) _ (Nat.le_refl _), cf_vfL]
    unfold ipTo
    rw [rangeF_getD, rangeF_getD]
    by_cases h : j < X.length
    · rw [if_pos (by omega), if_pos h, if_pos h, quo_VF X hX i hi _ (by omega), show X.length - (X.length - j) = j from by omega]
      rfl
    · rw [if_neg (by omega), if_neg h, if_neg h]
theorem vfL_lt (X : List Nat) (k : Nat) : ∀ n ∈ vfL X k, n < 256 := by
  intro n hn
  obtain ⟨j, _, rfl⟩ := List.mem_map.1 hn
  exact VF_lt X k j
theorem scales_at (X : List Nat) (i : Nat) (hi : i < X.length) : (scales X).getD i 0 = scale X i := by
  unfold scales
  rw [rangeF_getD, if_pos hi]
/-- what the last loop keeps -/
structure IpI (fb pb sb xb cb vb cap n : Nat) (X Y : List Nat) (W w : World) (i : Nat) : Prop where
  built : Built w fb
  sc : Own w sb (scales X)
  van : Buf w vb cap (vfL X X.length)
  box : w.heap[xb]? = some (Obj.cells #[Value.pointer (some ⟨fb, 0, none⟩), Value.slice (some ⟨pb, 0, none⟩) n n, Value.slice (some ⟨sb, 0, none⟩) n n] 101)
  out : Own w cb (ipTo X Y i)
  kept : Kept fb W w
  ne : fb ≠ cb ∧ sb ≠ cb ∧ vb ≠ cb ∧ xb ≠ cb ∧ W.heap.size ≤ cb
theorem IpI.step {fb pb sb xb cb vb cap n : Nat} {X Y : List Nat} {W w w2 : World} {i i' : Nat} (h : IpI fb pb sb xb cb vb cap n X Y W w i) (k : Kept cb w w2) (ho : Own w2 cb (ipTo X Y i')) : IpI fb pb sb xb cb vb cap n X Y W w2 i' := by
  obtain ⟨n1, n2, n3, n4, n5⟩ := h.ne
  refine ⟨(k.block fb h.built.lt n1).trans h.built, (k.block sb h.sc.lt n2).trans h.sc, h.van.of_same (k.block vb h.van.lt n3), (k.block xb (lt_of_heap h.box) n4).trans h.box, ho, ?_, h.ne⟩
  exact ⟨k.os.trans h.kept.os, k.tape.trans h.kept.tape, k.output.trans h.kept.output, Nat.le_trans h.kept.size k.size, fun q hq hqb => (k.block q (Nat.lt_of_lt_of_le hq h.kept.size) (by omega)).trans (h.kept.block q hq hqb)⟩

set_option maxRecDepth 100000 in
set_option maxHeartbeats 1000000 in
theorem Interpolate_bad (fb : Nat) (a : Option Addr) (n c : Nat) (X Y : List Nat) (w : World) (hp : Pt w (.slice a n c) X Y) (hn : n ≤ 100000) (he : ptsE X ≠ 0) :
    Calls Try.prog 54 #[.pointer (some ⟨fb, 0, none⟩), .slice a n c] w fun e w' => e = .returned (.tuple #[.slice none 0 0, .int .i64 (ptsE X)]) ∧ Below w.heap.size w w' := by
  have HC := hid (checkPoints_any a n c X Y w hp hn)
  have hne : (ptsE X != 0) = true := by simpa using he
  clear hp he
  generalize ptsE X = x at *
  go_enter Try.func54, Try.ntmps54
  go_wp2_with fail
  refine HC.out.mono ?_
  rintro e w2 ⟨rfl, hb⟩
  go_wp2
  go_ret2
  exact ⟨rfl, hb⟩

set_option maxRecDepth 100000 in
set_option maxHeartbeats 4000000 in
theorem Interpolate_ok (fb : Nat) (a : Option Addr) (n c : Nat) (X Y : List Nat) (w : World) (hF : Fld w fb) (hp : HeldPt fb w (.slice a n c) X Y) (he : ptsE X = 0) :
    Calls Try.prog 54 #[.pointer (some ⟨fb, 0, none⟩), .slice a n c] w fun e w' => ∃ cb, w.heap.size ≤ cb ∧ e = .returned (.tuple #[.slice (some ⟨cb, 0, none⟩) n n, .int .i64 0]) ∧ Own w' cb ((List.range n).map (ipC X fun i => Y.getD i 0)) ∧ Built w' fb ∧ Kept fb w w' := by
  have hp0 := hp w (Kept.refl _ _)
  obtain ⟨hnX, hnY⟩ := hp0.len
  have hsz : (1 ≤ n ∧ n ≤ 256) ∧ X.Nodup := by
    unfold ptsE at he
    split at he
    · cases he
    · split at he
      · rename_i h1 h2
        exact ⟨by omega, h2⟩
      · cases he
  obtain ⟨⟨h1, h2⟩, hnd⟩ := hsz
  obtain ⟨b, o, rfl⟩ := hp0.addr (by omega)
  have hc := checkPoints_any (some ⟨b, o, none⟩) n c X Y w hp0 (by omega)
  rw [he] at hc
  have HC := hid hc
  have HXL := hid hp0.ltX
  have HYL := hid hp0.ltY
  have HP := hid hp
  have HNX := hid hnX
  have HNY := hid hnY
  have HND := hid hnd
  have hfb0 := hF.lt
  have HF := hid hF
  have hmk := mk_u8 n (by omega)
  clear hc he hp hp0 hnX hnY hnd hF
  go_enter Try.func54, Try.ntmps54
  go_wp2_with fail
  refine HC.out.mono ?_
  rintro e w2 ⟨rfl, hb2⟩
  have hF2 : Fld w2 fb := HF.out.elim (fun h => .inl ((hb2.block _ hfb0).trans h)) (fun h => .inr ((hb2.block _ hfb0).trans h))
  have HB2 := hid hb2
  clear hb2
  go_wp2_with fail
  refine (build_any fb _ hF2).mono ?_
  rintro e w3 ⟨rfl, hB3, hk3⟩
  have HK3 := hid ((Kept.of_below HB2.out).trans hk3)
  have HB3 := hid hB3
  have ho := own_zrow w3 n
  rw [← upTo_zero n (fun i => X.getD i 0)] at ho
  have HO := hid ho
  have HBE := hid ((Below.refl w3.heap.size w3).alloc (Nat.le_refl _) (zrow n))
  clear hk3 hF2 hB3 ho
  go_wp2
  go_loopw [29] (fun iv wr => ∃ k : Nat, k ≤ n ∧ iv = .int .i64 k ∧ Hid (Own wr w3.heap.size (upTo n (fun i => X.getD i 0) k)) ∧ Hid (Below w3.heap.size w3 wr)) (fun iv _ => n - (intOf iv).toNat)
  case atStart => exact ⟨0, by omega, rfl, HO, HBE⟩
  case round =>
    clear HO HBE
    obtain ⟨k, hk, rfl, HO, HBE⟩ := hrel
    by_cases hlt : k < n
    · obtain ⟨c0, c1⟩ := (HP.out wr (HK3.out.trans (Kept.of_below HBE.out))).cells k hlt
      have hs3 := HBE.out.size
      have hol := HO.out.lt
      have co := HO.out.cell k (by rw [upTo_length]; exact hlt)
      have fo := HO.out.free k
      have hst := hid (upTo_set n (fun i => X.getD i 0) k)
      generalize (upTo n (fun i => X.getD i 0) k).getD k 0 = z at *
      have hxl := HXL.out k
      have hyl := HYL.out k
      obtain ⟨x, hx⟩ : ∃ x, x = X.getD k 0 := ⟨_, rfl⟩
      obtain ⟨y, hy⟩ : ∃ y, y = Y.getD k 0 := ⟨_, rfl⟩
      rw [← hx] at c0 hxl
      rw [← hy] at c1 hyl
      have HX := hid hx
      clear hx hy hmk
      go_wp2
      refine ⟨⟨k + 1, by omega, by go_num, hid ?_, hid ?_⟩, by simp [intOf] <;> omega⟩
      · rw [← hst.out]
        show Own _ _ ((upTo n (fun i => X.getD i 0) k).set k (X.getD k 0))
        rw [← HX.out]
        exact (HO.out.set k x).alloc _
      · exact (HBE.out.setCell (p := ⟨w3.heap.size, k, none⟩) (Nat.le_refl _) _).alloc (by simp; omega) _
    · obtain rfl : k = n := by omega
      clear hlt
      have hpl : upTo k (fun i => X.getD i 0) k = X := by
        rw [upTo_all, HNX.out, range_getD]
      have HO2 := HO.out
      rw [hpl] at HO2
      have HPL := hid HO2
      have hBr : Built wr fb := HB3.out.below HBE.out HB3.out.lt
      have HBR := hid hBr
      have hXm : ∀ n ∈ X, n < 256 := fun n hn => by
        obtain ⟨i, hi, rfl⟩ := List.getElem_of_mem hn
        have := HXL.out i
        rwa [List.getD_eq_getElem?_getD, List.getElem?_eq_getElem hi] at this
      have hbs := HO2.bs hXm k
      rw [← HNX.out] at hbs
      have HBS := hid hbs
      have hs3 := HBE.out.size
      have hb3l := HB3.out.lt
      clear hpl HO2 hBr hbs hXm HO
      obtain ⟨wo, rfl⟩ : ∃ wo, wo = wr := ⟨_, rfl⟩
      go_wp2_with fail
      refine (vanishing_any fb w3.heap.size 0 k k X _ HBR.out HBS.out (by omega)).mono ?_
      rintro e w4 ⟨vb, cap, hvb, rfl, hvan, hb4⟩
      have HVAN := hid hvan
      have HB4 := hid hb4
      have hs4 := hb4.size
      clear hvan hb4
      go_wp2_with fail
      refine (newLagrange_n fb w3.heap.size 0 k k X HNX.out _ (HBR.out.below HB4.out HBR.out.lt) (HBS.out.below HB4.out) (by omega) HND.out).mono ?_
      rintro e w5 ⟨sb, hsb, rfl, hsc, hb5⟩
      have HSC := hid hsc
      have HB5 := hid hb5
      have hs5 := hb5.size
      clear hsc hb5
      have hinv : IpI fb w3.heap.size sb w5.heap.size (w5.heap.size + 1) vb cap k X Y w ((w5.alloc (Obj.cells #[Value.pointer (some ⟨fb, 0, none⟩), Value.slice (some ⟨w3.heap.size, 0, none⟩) k k, Value.slice (some ⟨sb, 0, none⟩) k k] 101)).alloc (zrow k)) 0 := by
        have hbb : Below wo.heap.size wo ((w5.alloc (Obj.cells #[Value.pointer (some ⟨fb, 0, none⟩), Value.slice (some ⟨w3.heap.size, 0, none⟩) k k, Value.slice (some ⟨sb, 0, none⟩) k k] 101)).alloc (zrow k)) := ((HB4.out.trans (HB5.out.mono hs4)).alloc (by omega) _).alloc (by simp; omega) _
        have hkk := HK3.out.trans (Kept.of_below (HBE.out.trans (hbb.mono hs3)))
        have ho := own_zrow (w5.alloc (Obj.cells #[Value.pointer (some ⟨fb, 0, none⟩), Value.slice (some ⟨w3.heap.size, 0, none⟩) k k, Value.slice (some ⟨sb, 0, none⟩) k k] 101)) k
        rw [World.size_alloc] at ho
        have hk3 := HK3.out.size
        have hvl := HVAN.out.lt
        have hsl := HSC.out.lt
        refine ⟨HBR.out.below hbb HBR.out.lt, (HSC.out.alloc _).alloc _, ?_, heap_alloc (heap_new _ _) _, by rw [ipTo_zero, ← HNX.out]; exact ho, hkk, by omega⟩
        rw [← HNX.out]
        have hv5 : Buf w5 vb cap (vfL X k) := HVAN.out.of_same (HB5.out.block _ HVAN.out.lt)
        have hb56 : Below w5.heap.size w5 ((w5.alloc (Obj.cells #[Value.pointer (some ⟨fb, 0, none⟩), Value.slice (some ⟨w3.heap.size, 0, none⟩) k k, Value.slice (some ⟨sb, 0, none⟩) k k] 101)).alloc (zrow k)) := ((Below.refl _ _).alloc (Nat.le_refl _) _).alloc (by simp) _
        exact hv5.of_same (hb56.block _ hv5.lt)
      have HINV := hid hinv
      have hmk := mk_u8 k (by omega)
      clear hinv
      go_wp2
      clear hmk
      go_loopw [51] (fun iv wr => ∃ i : Nat, i ≤ k ∧ iv = .int .i64 i ∧ Hid (IpI fb w3.heap.size sb w5.heap.size (w5.heap.size + 1) vb cap k X Y w wr i)) (fun iv _ => k - (intOf iv).toNat)
      case atStart => exact ⟨0, by omega, rfl, HINV⟩
      case round =>
        clear HINV
        obtain ⟨i, hi, rfl, HINV⟩ := hrel
        by_cases hlt : i < k
        · obtain ⟨c0, c1⟩ := (HP.out wr HINV.out.kept).cells i hlt
          have cs := HINV.out.sc.cell i (by unfold scales; rw [List.length_map, List.length_range, ← HNX.out]; exact hlt)
          rw [scales_at X i (by rw [← HNX.out]; exact hlt)] at cs
          have e2 : wr.cell? ⟨w5.heap.size, 2, none⟩ = some (Value.slice (some ⟨sb, 0, none⟩) k k) := cell_of_heap HINV.out.box 2
          have hst := ipTo_step X Y HXL.out i (by rw [← HNX.out]; exact hlt)
          rw [← HNX.out] at hst
          have HST := hid hst
          have hxl := HXL.out i
          have hyl := HYL.out i
          have hsl : scale X i < 256 := Gf.iv_lt _
          obtain ⟨x, hx⟩ : ∃ x, x = X.getD i 0 := ⟨_, rfl⟩
          obtain ⟨y, hy⟩ : ∃ y, y = Y.getD i 0 := ⟨_, rfl⟩
          obtain ⟨sk, hsk⟩ : ∃ sk, sk = scale X i := ⟨_, rfl⟩
          rw [← hx] at c0 hxl HST
          rw [← hy] at c1 hyl HST
          rw [← hsk] at cs hsl HST
          clear hst hx hy hsk
          have hik : i < k := hlt
          go_wp2
          have hBq : Built (wr.alloc (Obj.cells #[.int .u8 (x : Int), .int .u8 (y : Int)] 72)) fb := heap_alloc HINV.out.built _
          have HKQ : Hid (Kept (w5.heap.size + 1) wr (wr.alloc (Obj.cells #[.int .u8 (x : Int), .int .u8 (y : Int)] 72))) := hid ((Kept.refl _ _).alloc _)
          have p0 : (wr.alloc (Obj.cells #[.int .u8 (x : Int), .int .u8 (y : Int)] 72)).cell? ⟨wr.heap.size, 0, none⟩ = some (.int .u8 (x : Int)) := by simp
          have p1 : (wr.alloc (Obj.cells #[.int .u8 (x : Int), .int .u8 (y : Int)] 72)).cell? ⟨wr.heap.size, 1, none⟩ = some (.int .u8 (y : Int)) := by simp
          have cs' : (wr.alloc (Obj.cells #[.int .u8 (x : Int), .int .u8 (y : Int)] 72)).cell? ⟨sb, i, none⟩ = some (.int .u8 (sk : Int)) := by
            rw [((Below.refl _ _).alloc (Nat.le_refl _) _).cell (World.block_lt_of_cell? _ _ cs)]; exact cs
          have e2' : (wr.alloc (Obj.cells #[.int .u8 (x : Int), .int .u8 (y : Int)] 72)).cell? ⟨w5.heap.size, 2, none⟩ = some (Value.slice (some ⟨sb, 0, none⟩) k k) := by
            rw [((Below.refl _ _).alloc (Nat.le_refl _) _).cell (World.block_lt_of_cell? _ _ e2)]; exact e2
          have hoq : Own (wr.alloc (Obj.cells #[.int .u8 (x : Int), .int .u8 (y : Int)] 72)) (w5.heap.size + 1) (ipTo X Y i) := HINV.out.out.alloc _
          have hvq : Buf (wr.alloc (Obj.cells #[.int .u8 (x : Int), .int .u8 (y : Int)] 72)) vb cap (vfL X X.length) := HINV.out.van.of_same (((Below.refl _ _).alloc (Nat.le_refl _) _).block _ HINV.out.van.lt)
          have HOQ := hid hoq
          have HVQ := hid hvq
          clear c0 c1 cs e2 hoq hvq
          generalize wr.alloc (Obj.cells #[.int .u8 (x : Int), .int .u8 (y : Int)] 72) = wq at *
          refine region_quiet_tail 14 (by kernel_rfl) (by kernel_rfl) ?_
          simp only [List.take_succ_cons, List.take_zero, List.drop_succ_cons, List.drop_zero]
          repeat (quiet_step ((go_at_call 94; exact Calls.quiet_of (mul_any fb y sk hyl hsl _ (by first | exact hBq | exact hBq.drewN _)))))
          refine wpQuiet_nil ?_
          intro nq
          have hpb : Bs (wq.drewN nq) (.slice (some ⟨vb, 0, none⟩) (k + 1) cap) (vfL X k) := by
            have h5 := (HVQ.out.drewN nq).bs (vfL_lt X X.length) cap
            rw [vfL_length, ← HNX.out] at h5
            exact h5
          go_wp2_with fail
          refine (addQuotient_any fb (w5.heap.size + 1) k k (ipTo X Y i) (vfL X k) vb 0 (k + 1) cap x (Gf.tm y sk) _ (hBq.drewN nq) (HOQ.out.drewN nq) HINV.out.ne.1 (by rw [ipTo_length, HNX.out]) hpb (by omega) HINV.out.ne.2.2.1 (by omega) hxl (Gf.tm_lt _ _ hyl) (ipTo_lt X Y HYL.out i)).mono ?_
          rintro e w6 ⟨rfl, ho6, hk6⟩
          rw [HST.out] at ho6
          have hk7 : Kept (w5.heap.size + 1) wr w6 := (HKQ.out.drewN nq).trans hk6
          have NX := hid (HINV.out.step hk7 ho6)
          clear ho6 hk6 hk7 hpb
          go_wp2
          exact ⟨⟨i + 1, by omega, by go_num, NX⟩, by simp [intOf] <;> omega⟩
        · obtain rfl : i = k := by omega
          have ho := HINV.out.out
          have hall : ipTo X Y i = (List.range i).map (ipC X fun i => Y.getD i 0) := by
            have := ipTo_all X Y
            rwa [← HNX.out] at this
          rw [hall] at ho
          have HO := hid ho
          clear ho hall
          go_wp2
          go_ret2
          exact ⟨w5.heap.size + 1, HINV.out.ne.2.2.2.2, rfl, HO.out, HINV.out.built, HINV.out.kept⟩
end Go.Proofs.Ytfleplbdcpdphaa
