/-
  The walk of the law that encoding is linear.
-/
import Derived.Test.YtbajekiliplclaaBuf
import Derived.Test.YtbajekiliplclaaLawC
import Derived.Test.YtbajekiliplclaaOpen
namespace Go.Proofs.Ytbajekiliplclaa
open Go.RowKit
set_option linter.unusedVariables false

theorem sx_xor (f g : Nat → Nat) : ∀ k, sx f k ^^^ sx g k = sx (fun i => f i ^^^ g i) k
  | 0 => by show 0 ^^^ 0 = 0; rfl
  | k + 1 => by
    show (sx f k ^^^ f k) ^^^ (sx g k ^^^ g k) = sx (fun i => f i ^^^ g i) k ^^^ (f k ^^^ g k)
    rw [← sx_xor f g k, Gf.xor_swap4]
theorem encP_getD (d : List Nat) (k L i c : Nat) (hc : c < L) : (encP d k L i).getD c 0 = if i < k then d.getD (i * L + c) 0 else sx (fun j => Gf.tm ((wts (List.range k) (scales (List.range k)) i).getD j 0) (d.getD (j * L + c) 0)) k := by
  unfold encP
  split
  · exact spl_getD d L i c hc
  · rw [mixL_getD _ _ _ _ _ hc]
    refine sx_congr k fun j hj => ?_
    rw [range_map_getD _ _ _ hj, spl_getD d L j c hc]
theorem encP_xor (d m s : List Nat) (k L i c : Nat) (hc : c < L) (hd : ∀ i, d.getD i 0 < 256) (hm : ∀ i, m.getD i 0 < 256) (hs : ∀ c, s.getD c 0 = d.getD c 0 ^^^ m.getD c 0) :
    (encP d k L i).getD c 0 ^^^ (encP m k L i).getD c 0 = (encP s k L i).getD c 0 := by
  rw [encP_getD _ _ _ _ _ hc, encP_getD _ _ _ _ _ hc, encP_getD _ _ _ _ _ hc]
  split
  · rw [hs]
  · rw [sx_xor]
    refine sx_congr k fun j hj => ?_
    rw [hs, Gf.tm_xor_right _ _ _ (getD_lt (wts_lt _ _ _) j) (hd _) (hm _)]
/-- the first q bytes summed -/
def xorTo (d m : List Nat) (q : Nat) : List Nat := (List.range d.length).map fun i => if i < q then d.getD i 0 ^^^ m.getD i 0 else d.getD i 0
theorem xorTo_length (d m : List Nat) (q : Nat) : (xorTo d m q).length = d.length := by simp [xorTo]
theorem xorTo_zero (d m : List Nat) : xorTo d m 0 = d := by
  refine ext_getD (by simp [xorTo]) fun i hi => ?_
  rw [xorTo_length] at hi
  simp [xorTo, List.getElem?_range hi]
theorem xorTo_getD (d m : List Nat) (q i : Nat) (hi : i < d.length) : (xorTo d m q).getD i 0 = if i < q then d.getD i 0 ^^^ m.getD i 0 else d.getD i 0 := by
  unfold xorTo
  rw [List.getD_eq_getElem?_getD, List.getElem?_map, List.getElem?_range hi]; rfl
theorem xorTo_set (d m : List Nat) (q : Nat) (hq : q < d.length) : (xorTo d m q).set q (d.getD q 0 ^^^ m.getD q 0) = xorTo d m (q + 1) := by
  refine ext_getD (by simp [xorTo_length]) fun i hi => ?_
  rw [List.length_set, xorTo_length] at hi
  rw [xorTo_getD _ _ _ _ hi, List.getD_eq_getElem?_getD, List.getElem?_set]
  by_cases e : q = i
  · subst e; simp [xorTo_length, hi]
  · rw [if_neg e, ← List.getD_eq_getElem?_getD, xorTo_getD _ _ _ _ hi]
    by_cases h2 : i < q
    · rw [if_pos h2, if_pos (by omega)]
    · rw [if_neg h2, if_neg (by omega)]
theorem xorTo_lt (d m : List Nat) (q : Nat) (hd : ∀ i, d.getD i 0 < 256) (hm : ∀ i, m.getD i 0 < 256) : ∀ n ∈ xorTo d m q, n < 256 := by
  intro n hn
  unfold xorTo at hn
  obtain ⟨i, _, rfl⟩ := List.mem_map.1 hn
  split
  · exact Gf.xor_lt (hd i) (hm i)
  · exact hd i
theorem xorTo_all (d m : List Nat) (h : m.length = d.length) (c : Nat) : (xorTo d m d.length).getD c 0 = d.getD c 0 ^^^ m.getD c 0 := by
  by_cases hc : c < d.length
  · rw [xorTo_getD _ _ _ _ hc, if_pos hc]
  · rw [List.getD_eq_getElem?_getD, List.getD_eq_getElem?_getD, List.getD_eq_getElem?_getD, List.getElem?_eq_none (by rw [xorTo_length]; omega), List.getElem?_eq_none (by omega), List.getElem?_eq_none (by omega)]
    rfl

set_option maxRecDepth 100000 in
set_option maxHeartbeats 1000000 in
theorem linear_in (W : World) (k t : Nat) (h1 : 1 ≤ k) (h2 : k ≤ t) (h3 : t ≤ 30) (S I : Int) (da oa ia pa : Option Addr) (n dc oc il ic pl pc : Nat) (d m : List Nat) (Wh At : Int) (M : Nat)
    (hd : Bs W (.slice da n dc) d) (hm : Bs W (.slice oa n oc) m) (hdn : da = none → dc = 0) (hmn : oa = none → oc = 0) (hn : n ≤ 2000) :
    Calls Try.prog 9 #[.agg #[.int .i64 k, .int .i64 t, .int .i64 S, .int .i64 I, .slice da n dc, .slice oa n oc, .slice ia il ic, .int .i64 Wh, .int .i64 At, .int .u8 M, .slice pa pl pc]] W fun e w' => e = .returned (.bool true) ∧ Below W.heap.size W w' := by
  have b1 : decide ((k : Int) < 1) = false := by simp; omega
  have b2 : decide ((t : Int) < (k : Int)) = false := by simp; omega
  have b3 : decide ((30 : Int) < (t : Int)) = false := by simp; omega
  have b4 : decide ((2000 : Int) < (n : Int)) = false := by simp; omega
  go_enter Try.func9, Try.ntmps9
  go_wp2_with fail
  go_quiet (fail)
  go_wp2_with fail
  obtain ⟨w1, hw1⟩ : ∃ w1, w1 = (W.alloc (Obj.cells #[.int .i64 k, .int .i64 t, .int .i64 S, .int .i64 I, .slice da n dc, .slice oa n oc, .slice ia il ic, .int .i64 Wh, .int .i64 At, .int .u8 M, .slice pa pl pc] 39)).drewN nq := ⟨_, rfl⟩
  have hW1 : Below W.heap.size W w1 := by rw [hw1]; exact bel_drewN ((Below.refl _ _).alloc (Nat.le_refl _) _) _
  rw [← hw1]
  clear hw1
  refine (newField_any _).mono ?_
  rintro e w2 ⟨rfl, hfr, hb2⟩
  have hd2 := (hd.below hW1).below hb2
  have hm2 := (hm.below hW1).below hb2
  have hdl := hd.len
  have hml := hm.len
  have hdlt : ∀ i, d.getD i 0 < 256 := hd.lt
  have hmlt : ∀ i, m.getD i 0 < 256 := hm.lt
  have hf2 := lt_of_heap hfr
  have HDL := hid hdl
  have HML := hid hml
  have HDLT := hid hdlt
  have HMLT := hid hmlt
  clear hdl hml hdlt hmlt
  go_wp2_with (refine wpList_cloneB rfl (.tmp 51) (.tmp 52) rfl w2.heap.size rfl (heap_new w2 _) da n dc d rfl (hd2.alloc _) hdn (by omega) ?_)
  intro a' c' w3 hd3 hnc3 hlow3 hnil3 hk3 hown3
  have hsz3 := hk3.size
  have hsW1 := hW1.size
  rw [World.size_alloc] at hsz3
  obtain ⟨g, hWg, hgf, hgb⟩ : ∃ g, w2.heap.size ≤ g ∧ w1.heap.size ≠ g ∧ (0 < n → a' = some ⟨g, 0, none⟩ ∧ Buf w3 g c' d) := by
    by_cases h0 : 0 < n
    · obtain ⟨g, rfl, hg, hb, _⟩ := buf_of_owns hown3 h0
      exact ⟨g, hg, by omega, fun _ => ⟨rfl, hb⟩⟩
    · exact ⟨w3.heap.size, by omega, by omega, fun h => absurd h h0⟩
  have hb23 : Below w2.heap.size w2 w3 := ((Below.refl _ _).alloc (Nat.le_refl _) _).trans (hk3.below (by simp) (Nat.le_refl _))
  have hW3 : Below W.heap.size W w3 := hW1.trans ((hb2.trans (hb23.mono hb2.size)).mono hW1.size)
  have hFr3 : Fresh w3 w1.heap.size := (hb23.block _ hf2).trans hfr
  have hn3 : w1.heap.size < w3.heap.size := by omega
  have HBUF := hid (fun h => (hgb h).2)
  have hga := fun h => (hgb h).1
  have HGA := hid hga
  have hsz21 := hb2.size
  have hoffS : Off w1.heap.size (.slice a' n c') := by
    cases a' with
    | none => trivial
    | some ad => show ad.block ≠ w1.heap.size; have := hlow3 ad rfl; omega
  have HOFFS := hid hoffS
  clear hd2 hm2 hown3 hk3 hgb hga hd3 hlow3 hb23 hoffS
  go_wp2
  go_loopw [9] (fun iv wr => ∃ q : Nat, q ≤ n ∧ iv = .int .i64 q ∧ (0 < n → Buf wr g c' (xorTo d m q)) ∧ Kept g w3 wr) (fun iv _ => n - (intOf iv).toNat)
  case atStart => exact ⟨0, by omega, rfl, fun h => by rw [xorTo_zero]; exact HBUF.out h, Kept.refl _ _⟩
  case round =>
    obtain ⟨q, hq, rfl, hbuf, hkr⟩ := hrel
    have HB := hid hbuf
    have HK := hid hkr
    clear hbuf hkr
    by_cases hlt : q < n
    · have ha := HGA.out (by omega)
      subst ha
      have hB := HB.out (by omega)
      have hWr : Below W.heap.size W wr := hW3.trans ((HK.out.below (B := W.heap.size) (by have := hW3.size; omega) (by omega)))
      have hmr := hm.below hWr
      have hmeq := HML.out
      rcases hmr.addr with ⟨h0, _⟩ | ⟨h0, bm, om, cm', hmv⟩
      · exfalso
        rw [h0] at hmeq
        simp at hmeq
        omega
      · simp only [Value.slice.injEq] at hmv
        obtain ⟨rfl, hx1, hx2⟩ := hmv
        clear hx1 hx2 h0 hmeq
        have cm := hmr.cell q (by rw [← HML.out]; exact hlt)
        have cs := hB.cell q (by rw [xorTo_length, ← HDL.out]; exact hlt)
        rw [xorTo_getD _ _ _ _ (by rw [← HDL.out]; exact hlt), if_neg (Nat.lt_irrefl q)] at cs
        have fs := hB.free q
        have hx := xor_int (d.getD q 0) (m.getD q 0) (HDLT.out q) (HMLT.out q)
        have hst : ∀ nq, Buf ((wr.drewN nq).setCell ⟨g, q, none⟩ (.int .u8 ((d.getD q 0 ^^^ m.getD q 0 : Nat) : Int))) g c' (xorTo d m (q + 1)) := fun nq => by
          have h5 := (hB.drewN nq).set q (d.getD q 0 ^^^ m.getD q 0) (by rw [xorTo_length, ← HDL.out]; exact hlt)
          rwa [xorTo_set d m q (by rw [← HDL.out]; exact hlt)] at h5
        have HST := hid hst
        clear hst hB hmr
        generalize d.getD q 0 = x at *
        generalize m.getD q 0 = y at *
        go_wp2
        refine region_quiet_tail 9 (by kernel_rfl) (by kernel_rfl) ?_
        simp only [List.take_succ_cons, List.take_zero, List.drop_succ_cons, List.drop_zero]
        repeat (quiet_step (fail))
        refine wpQuiet_nil ?_
        intro nq
        go_wp2
        exact ⟨⟨q + 1, by omega, by go_num, fun _ => HST.out nq, (HK.out.drewN nq).setCell rfl _⟩, by simp [intOf]; omega⟩
    · obtain rfl : q = n := by omega
      have hFr : Fresh wr w1.heap.size := (HK.out.block _ hn3 hgf).trans hFr3
      have hszr := HK.out.size
      have hWr : Below W.heap.size W wr := hW3.trans (HK.out.below (by have := hW3.size; omega) (by omega))
      have hdr := hd.below hWr
      have hmr := hm.below hWr
      have hsr : Bs wr (.slice a' q c') (xorTo d m q) := by
        by_cases h0 : 0 < q
        · have ha := HGA.out h0
          subst ha
          have h5 := (HB.out h0).bs (xorTo_lt d m q HDLT.out HMLT.out) c'
          rwa [xorTo_length, ← HDL.out] at h5
        · have h6 : xorTo d m q = [] := List.eq_nil_of_length_eq_zero (by rw [xorTo_length, ← HDL.out]; omega)
          rw [h6, show q = 0 from by omega]
          exact ⟨a', c', rfl, fun n h => absurd h List.not_mem_nil, fun h => absurd rfl h⟩
      clear hFr3 hW3 hgf hlt
      have HSR := hid hsr
      clear hsr HB HK HBUF HGA
      go_wp2_with (refine wpList_clone rfl (.tmp 74) (.tmp 75) rfl wr.heap.size rfl (heap_new wr _) da q dc d rfl (hdr.alloc _) hdn (by omega) ?_)
      intro a1 c1 w4 hd4 hnc4 hlow4 _ hk4
      have hB4 : Below wr.heap.size wr w4 := ((Below.refl _ _).alloc (Nat.le_refl _) _).trans (hk4.below (by simp) (Nat.le_refl _))
      have hoff4 : Off w1.heap.size (.slice a1 q c1) := by
        cases a1 with
        | none => trivial
        | some ad => show ad.block ≠ w1.heap.size; have := hlow4 ad rfl; omega
      have hFr4 : Fresh w4 w1.heap.size := (hB4.block _ (by omega)).trans hFr
      have hsr4 := HSR.out.below hB4
      have hs4 := hB4.size
      clear hk4 hlow4 hdr hmr
      go_wp2_with fail
      refine (Encode_any w1.heap.size k t a1 q c1 d _ (.inl hFr4) hd4 hoff4 hnc4 h1 h2 (by omega) (by omega)).mono ?_
      rintro e w5 ⟨g1, bf1, hg1, rfl, hp1, hB5, hk5⟩
      have hW5 : Below W.heap.size W w5 := hWr.trans ((hB4.mono (by omega)).trans (hk5.below (by omega) (by omega)))
      have hm5 := hm.below hW5
      have hsr5 := hsr4.kept hk5 HOFFS.out
      have hs5 := hk5.size
      clear hd4 hnc4 hsr4 hFr4 hoff4
      go_wp2_with (refine wpList_clone rfl (.tmp 84) (.tmp 85) rfl w5.heap.size rfl (heap_new w5 _) oa q oc m rfl (hm5.alloc _) hmn (by omega) ?_)
      intro a2 c2 w6 hd6 hnc6 hlow6 _ hk6
      have hB6 : Below w5.heap.size w5 w6 := ((Below.refl _ _).alloc (Nat.le_refl _) _).trans (hk6.below (by simp) (Nat.le_refl _))
      have hoff6 : Off w1.heap.size (.slice a2 q c2) := by
        cases a2 with
        | none => trivial
        | some ad => show ad.block ≠ w1.heap.size; have := hlow6 ad rfl; omega
      have hBu6 : Built w6 w1.heap.size := hB5.below hB6 hB5.lt
      have hsr6 := hsr5.below hB6
      have hs6 := hB6.size
      have hp1' := hp1.below hB6
      clear hk6 hlow6 hm5 hsr5 hp1 hB5
      go_wp2_with fail
      refine (Encode_any w1.heap.size k t a2 q c2 m _ (.inr hBu6) hd6 hoff6 hnc6 h1 h2 (by omega) (by omega)).mono ?_
      rintro e w7 ⟨g2, bf2, hg2, rfl, hp2, hB7, hk7⟩
      have hsr7 := hsr6.kept hk7 HOFFS.out
      have hp17 := hp1'.kept hk7 (by omega) (by omega)
      have hs7 := hk7.size
      have hW7 : Below W.heap.size W w7 := hW5.trans ((hB6.mono (by omega)).trans (hk7.below (by omega) (by omega)))
      clear hd6 hnc6 hsr6 hoff6 hp1' hBu6
      go_wp2_with fail
      refine (Encode_any w1.heap.size k t a' q c' (xorTo d m q) _ (.inr hB7) hsr7 HOFFS.out hnc3 h1 h2 (by omega) (by omega)).mono ?_
      rintro e w8 ⟨g3, bf3, hg3, rfl, hp3, _, hk8⟩
      have hp18 := hp17.kept hk8 (by omega) (by omega)
      have hp28 := hp2.kept hk8 (by omega) (by omega)
      have hW8 : Below W.heap.size W w8 := hW7.trans (hk8.below (by omega) (by omega))
      have HP1 := hid hp18
      have HP2 := hid hp28
      have HP3 := hid hp3
      have HW8 := hid hW8
      have hs8 := hW8.size
      clear hp18 hp28 hp3 hW8 hp17 hp2 hsr7 hk8 hW7 hk7 hW5 hk5 hWr hFr hB4 hB6 hB7 hg1 hg2 hg3 hd hm hnc3 hW1 hb2 hfr
      have hLb := plen_le k q h1
      generalize plen k q = L at *
      go_wp2_with fail
      go_loopw [16] (fun iv wr => ∃ i : Nat, i ≤ t ∧ iv = .int .i64 i ∧ Hid (Below w8.heap.size w8 wr)) (fun iv _ => t - (intOf iv).toNat)
      case atStart => exact ⟨0, by omega, rfl, hid (Below.refl _ _)⟩
      case round =>
        obtain ⟨i, hi, rfl, HB⟩ := hrel
        by_cases hlt : i < t
        · have e1 := (HP1.out.below HB.out).own.cell1 i (by rw [mkps_length]; exact hlt)
          have e2 := (HP2.out.below HB.out).own.cell1 i (by rw [mkps_length]; exact hlt)
          have e3 := (HP3.out.below HB.out).own.cell1 i (by rw [mkps_length]; exact hlt)
          rw [mkps_get _ _ _ _ _ _ hlt] at e1 e2 e3
          go_wp2
          go_quiet (fail)
          clear e1 e2 e3
          go_wp2
          go_loopw [17] (fun jv wr => ∃ j : Nat, j ≤ L ∧ jv = .int .i64 j ∧ Hid (Below w8.heap.size w8 wr)) (fun jv _ => L - (intOf jv).toNat)
          case atStart => exact ⟨0, by omega, rfl, hid (bel_drewN HB.out nq)⟩
          case round =>
            clear HB
            obtain ⟨j, hj, rfl, HB⟩ := hrel
            have e1 := (HP1.out.below HB.out).own.cell1 i (by rw [mkps_length]; exact hlt)
            have e2 := (HP2.out.below HB.out).own.cell1 i (by rw [mkps_length]; exact hlt)
            have e3 := (HP3.out.below HB.out).own.cell1 i (by rw [mkps_length]; exact hlt)
            rw [mkps_get _ _ _ _ _ _ hlt] at e1 e2 e3
            by_cases hlt2 : j < L
            · have f1 := ((HP1.out.below HB.out).row i hlt).cell j (by rw [encP_length]; exact hlt2)
              have f2 := ((HP2.out.below HB.out).row i hlt).cell j (by rw [encP_length]; exact hlt2)
              have f3 := ((HP3.out.below HB.out).row i hlt).cell j (by rw [encP_length]; exact hlt2)
              rw [← encP_xor d m (xorTo d m q) k L i j hlt2 HDLT.out HMLT.out (fun c => by have h5 := xorTo_all d m (by rw [← HML.out, ← HDL.out]) c; rwa [← HDL.out] at h5)] at f3
              have x1 : (encP d k L i).getD j 0 < 256 := getD_lt (encP_lt d HDLT.out k L i) j
              have x2 : (encP m k L i).getD j 0 < 256 := getD_lt (encP_lt m HMLT.out k L i) j
              generalize (encP d k L i).getD j 0 = x at *
              generalize (encP m k L i).getD j 0 = y at *
              go_wp2
              go_quiet ((go_at_call 42; exact Calls.quiet_of_same ((add_any x y x1 x2 _).mono fun e w' h => ⟨h.1, h.2.symm⟩)))
              go_wp2
              exact ⟨⟨j + 1, by omega, by go_num, hid (bel_drewN HB.out nq)⟩, by simp [intOf]; omega⟩
            · obtain rfl : j = L := by omega
              go_wp2
              exact ⟨⟨i + 1, by omega, by go_num, HB⟩, by simp [intOf]; omega⟩
        · obtain rfl : i = t := by omega
          go_wp2_with fail
          refine (known_any _).mono ?_
          rintro e0 w9 ⟨rfl, hb9⟩
          go_wp2
          go_ret
          exact ⟨rfl, known_end (HW8.out.trans (HB.out.mono hs8)) hb9⟩

end Go.Proofs.Ytbajekiliplclaa
