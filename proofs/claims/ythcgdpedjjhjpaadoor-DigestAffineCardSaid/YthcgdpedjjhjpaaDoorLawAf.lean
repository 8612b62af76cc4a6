/-
  DigestAffine: the walk.
-/
import Derived.Test.YthcgdpedjjhjpaaDoorKnw
import Derived.Test.YthcgdpedjjhjpaaDoorCrcM
namespace Go.Proofs.YthcgdpedjjhjpaaDoor
open Go Go.RowKit
set_option linter.unusedVariables false

/-- the sum of three messages, its first i bytes -/
def s3 (x y z : List Nat) (i : Nat) : List Nat := (List.range i).map fun j => (x.getD j 0 ^^^ y.getD j 0) ^^^ z.getD j 0
theorem s3_length (x y z : List Nat) (i : Nat) : (s3 x y z i).length = i := by simp [s3]
theorem s3_step (x y z : List Nat) (i : Nat) : s3 x y z i ++ [(x.getD i 0 ^^^ y.getD i 0) ^^^ z.getD i 0] = s3 x y z (i + 1) := by simp [s3, List.range_succ]
theorem s3_lt (x y z : List Nat) (i : Nat) (hx : ∀ j, x.getD j 0 < 256) (hy : ∀ j, y.getD j 0 < 256) (hz : ∀ j, z.getD j 0 < 256) : ∀ n ∈ s3 x y z i, n < 256 := fun n hn => by
  obtain ⟨j, _, rfl⟩ := List.mem_map.1 hn
  exact Nat.xor_lt_two_pow (n := 8) (Nat.xor_lt_two_pow (n := 8) (hx j) (hy j)) (hz j)
theorem s3_crc (x y z : List Nat) (n : Nat) (hx : x.length = n) (hy : y.length = n) (hz : z.length = n) : crc (s3 x y z n) = (crc x ^^^ crc y) ^^^ crc z :=
  crc_affine x y z _ n hx hy hz (s3_length _ _ _ _) fun i => by
    by_cases h : i < n
    · unfold s3
      rw [List.getD_eq_getElem?_getD, List.getElem?_map, List.getElem?_range h]
      rfl
    · have e : ∀ (l : List Nat), l.length = n → l.getD i 0 = 0 := fun l hl => by rw [List.getD_eq_getElem?_getD, List.getElem?_eq_none (by omega)]; rfl
      rw [e _ (s3_length x y z n), e x hx, e y hy, e z hz]
      rfl
theorem crc_lt (l : List Nat) (h : ∀ i, l.getD i 0 < 256) : crc l < 4294967296 := by
  unfold crc
  exact xor_lt32 (by decide) (crcTo_lt h _)

set_option maxRecDepth 100000 in
set_option maxHeartbeats 2000000 in
theorem affine_walk (w : World) (V : Vars w shaRound shaStart) (a0 : Option Addr) (n0 c0 : Nat) (l0 : List Nat) (hl0 : Bs w (.slice a0 n0 c0) l0) (hc0 : n0 ≤ c0) (hn0 : a0 = none → c0 = 0)
    (a1 : Option Addr) (n1 c1 : Nat) (l1 : List Nat) (hl1 : Bs w (.slice a1 n1 c1) l1) (hc1 : n1 ≤ c1) (hn1 : a1 = none → c1 = 0)
    (a2 : Option Addr) (n2 c2 : Nat) (l2 : List Nat) (hl2 : Bs w (.slice a2 n2 c2) l2) (hc2 : n2 ≤ c2) (hn2 : a2 = none → c2 = 0) :
    Calls Tryd.prog 19 #[.slice a0 n0 c0, .slice a1 n1 c1, .slice a2 n2 c2] w fun e w' => e = .returned (.bool true) ∧ Below w.heap.size w w' := by
  have HK := hid (fun (wx : World) (b : Below w.heap.size w wx) => known_dg wx (V.below b))
  have HL0 := hid hl0
  have HL1 := hid hl1
  have HL2 := hid hl2
  have HN0 := hid hn0
  have HN1 := hid hn1
  have HN2 := hid hn2
  have HC0 := hid hc0
  have HC1 := hid hc1
  have HC2 := hid hc2
  have HE0 := hid (fun (_ : Unit) => hl0.len)
  have HE1 := hid (fun (_ : Unit) => hl1.len)
  have HE2 := hid (fun (_ : Unit) => hl2.len)
  clear V hl0 hl1 hl2 hn0 hn1 hn2 hc0 hc1 hc2
  by_cases h1 : 20000 < n0
  · have hI : 20000 < (n0 : Int) := by omega
    go_enter Tryd.func19, Tryd.ntmps19
    go_wp2_with fail
    refine (HK.out w (Below.refl _ _)).mono ?_
    rintro e w2 ⟨rfl, hb2⟩
    go_wp2
    go_ret
    exact ⟨rfl, hb2⟩
  have g1 : ¬ 20000 < (n0 : Int) := by omega
  by_cases h2 : n1 = n0
  case neg =>
    have g2 : (((n1 : Nat) : Int) != ((n0 : Nat) : Int)) = true := by rw [bne_iff_ne]; omega
    clear h2
    go_enter Tryd.func19, Tryd.ntmps19
    go_wp2_with fail
    refine (HK.out w (Below.refl _ _)).mono ?_
    rintro e w2 ⟨rfl, hb2⟩
    go_wp2
    go_ret
    exact ⟨rfl, hb2⟩
  subst h2
  by_cases h3 : n2 = n1
  case neg =>
    have g2 : (((n2 : Nat) : Int) != ((n1 : Nat) : Int)) = true := by rw [bne_iff_ne]; omega
    clear h3
    go_enter Tryd.func19, Tryd.ntmps19
    go_wp2_with fail
    refine (HK.out w (Below.refl _ _)).mono ?_
    rintro e w2 ⟨rfl, hb2⟩
    go_wp2
    go_ret
    exact ⟨rfl, hb2⟩
  subst h3
  have HB1 := hid ((Below.refl w.heap.size w).alloc (Nat.le_refl _) (.cells #[] 5))
  obtain ⟨w1, hw1⟩ : ∃ x, x = w.alloc (.cells #[] 5) := ⟨_, rfl⟩
  have HO1 := hid (show w1.ownsRow w.heap.size 5 1 (.slice (some ⟨w.heap.size, 0, none⟩) 0 0) 0 (u8s (s3 l0 l1 l2 0)) from by rw [hw1]; exact ⟨rfl, .inr ⟨w.heap.size, 0, #[], rfl, Nat.le_refl _, heap_new _ _, Nat.le_refl _, Nat.zero_le _, rfl, rfl⟩⟩)
  rw [← hw1] at HB1
  have HSL := hid (fun i => s3_lt l0 l1 l2 i HL0.out.lt HL1.out.lt HL2.out.lt)
  have HX0 := hid HL0.out.lt
  have HX1 := hid HL1.out.lt
  have HX2 := hid HL2.out.lt
  have HST := hid (fun i => s3_step l0 l1 l2 i)
  have HCRC := hid (s3_crc l0 l1 l2 n2 (HE0.out ()).symm (HE1.out ()).symm (HE2.out ()).symm)
  have HCL := hid (And.intro (crc_lt l0 HL0.out.lt) (And.intro (crc_lt l1 HL1.out.lt) (crc_lt l2 HL2.out.lt)))
  go_enter Tryd.func19, Tryd.ntmps19
  go_wp2
  change Code.wp _ _ _ _ (w.alloc (.cells #[] 5))
  rw [← hw1]
  clear hw1
  go_loopw [7, 8] (fun sv iv wr => ∃ i : Nat, i ≤ n2 ∧ iv = .int .i64 i ∧ Hid (wr.ownsRow w.heap.size 5 1 sv i (u8s (s3 l0 l1 l2 i))) ∧ Hid (Below w.heap.size w wr)) (fun _ iv _ => n2 - (intOf iv).toNat)
  case atStart => exact ⟨0, by omega, rfl, HO1, HB1⟩
  case round =>
    clear HO1 HB1
    obtain ⟨i, hi, rfl, HO, HB⟩ := hrel
    by_cases hin : i < n2
    · have hI : (i : Int) < (n2 : Int) := by omega
      obtain ⟨b0, o0, rfl⟩ : ∃ b o, a0 = some ⟨b, o, none⟩ := by
        rcases HL0.out.addr with ⟨h1, _⟩ | ⟨_, b, o, c', hv⟩
        · have := HE0.out (); rw [h1] at this; simp at this; omega
        · simp only [Value.slice.injEq] at hv; exact ⟨b, o, hv.1⟩
      obtain ⟨b1, o1, rfl⟩ : ∃ b o, a1 = some ⟨b, o, none⟩ := by
        rcases HL1.out.addr with ⟨h1, _⟩ | ⟨_, b, o, c', hv⟩
        · have := HE1.out (); rw [h1] at this; simp at this; omega
        · simp only [Value.slice.injEq] at hv; exact ⟨b, o, hv.1⟩
      obtain ⟨b2, o2, rfl⟩ : ∃ b o, a2 = some ⟨b, o, none⟩ := by
        rcases HL2.out.addr with ⟨h1, _⟩ | ⟨_, b, o, c', hv⟩
        · have := HE2.out (); rw [h1] at this; simp at this; omega
        · simp only [Value.slice.injEq] at hv; exact ⟨b, o, hv.1⟩
      have q0 := HL0.out.cell i (by rw [← HE0.out ()]; exact hin)
      have q1 := HL1.out.cell i (by rw [← HE1.out ()]; exact hin)
      have q2 := HL2.out.cell i (by rw [← HE2.out ()]; exact hin)
      have hx := HX0.out i
      have hy := HX1.out i
      have hz := HX2.out i
      have hst := HST.out i
      generalize l0.getD i 0 = x at *
      generalize l1.getD i 0 = y at *
      generalize l2.getD i 0 = z at *
      have k1 : bits .xor .u8 (x : Int) (y : Int) = ((x ^^^ y : Nat) : Int) := u8_xor_nat x y hx hy
      have hu : x ^^^ y < 256 := Nat.xor_lt_two_pow (n := 8) hx hy
      generalize x ^^^ y = u at *
      have k2 : bits .xor .u8 (u : Int) (z : Int) = ((u ^^^ z : Nat) : Int) := u8_xor_nat u z hu hz
      have hv : u ^^^ z < 256 := Nat.xor_lt_two_pow (n := 8) hu hz
      generalize u ^^^ z = v at *
      have HV := hid (show ∀ n ∈ [v], n < 256 from fun n hn => by rw [List.mem_singleton.1 hn]; exact hv)
      have HSS := hid hst
      have hsz := HB.out.size
      have HQ := hid (And.intro q0 (And.intro q1 q2))
      have HKA := hid (fun (wx : World) (b : Below w.heap.size w wx) => (show wx.cell? ⟨b0, o0 + i, none⟩ = some (.int .u8 (x : Int)) ∧ wx.cell? ⟨b1, o1 + i, none⟩ = some (.int .u8 (y : Int)) ∧ wx.cell? ⟨b2, o2 + i, none⟩ = some (.int .u8 (z : Int)) from ⟨(b.cell (World.block_lt_of_cell? _ _ HQ.out.1)).trans HQ.out.1, (b.cell (World.block_lt_of_cell? _ _ HQ.out.2.1)).trans HQ.out.2.1, (b.cell (World.block_lt_of_cell? _ _ HQ.out.2.2)).trans HQ.out.2.2⟩))
      clear q0 q1 q2
      obtain ⟨q0, q1, q2⟩ := HKA.out wr HB.out
      have K0 := hid (HKA.out wr HB.out)
      clear hst
      go_wp2
      go_region_held3 (fun wx => wx.cell? ⟨b0, o0 + i, none⟩ = some (.int .u8 (x : Int)) ∧ wx.cell? ⟨b1, o1 + i, none⟩ = some (.int .u8 (y : Int)) ∧ wx.cell? ⟨b2, o2 + i, none⟩ = some (.int .u8 (z : Int)))
        (first | exact K0.out | exact HKA.out _ (bel_drewN (HB.out.alloc HB.out.size _) 1) | exact HKA.out _ (bel_drewN HB.out 1) | exact K5.out)
        (first
          | (refine step_own_bytesH (by rfl) (.tmp 35) (.tmp 50) (by rfl) w.heap.size i u7 (s3 l0 l1 l2 i) (by rfl) (by exact HO.out.alloc _) (some ⟨wr.heap.size, 0, none⟩) 1 1 [v] (by rfl) (Own.bs (l := [v]) (heap_new _ _) HV.out 1) (fun h => by cases h) (by omega) (by simp; omega) ?_
             intro v5 w5 hown5 hg5
             have hb5 : Below w.heap.size w w5 := (bel_drewN (HB.out.alloc HB.out.size _) 1).grown hg5 (by simp; omega) (fun g hg => (HO.out.lt g hg).1)
             have K5 := hid (HKA.out w5 hb5)
             rw [HSS.out] at hown5
             have HO5 := hid hown5
             have HB5 := hid hb5))
      all_goals
        go_wp2
        exact ⟨⟨i + 1, by omega, by go_num, HO5, HB5⟩, by simp [intOf]; omega⟩
    · obtain rfl : i = n2 := by omega
      obtain ⟨ax, cs, rfl, -, hcs, hbs, hls⟩ := bs_of_owns HO.out (HSL.out i)
      have HBS := hid hbs
      have hI : ¬ ((i : Int) < (i : Int)) := by omega
      have HA0 := hid (hid ((HL0.out.below HB.out).alloc (.cells #[] 5)))
      have HSN := hid (s3_length l0 l1 l2 i)
      clear hbs hls HO
      go_wp2_with (refine wpList_clone (by rfl) (.tmp 52) (.tmp 53) (by rfl) wr.heap.size (by rfl) (heap_new _ _) a0 i c0 l0 (by rfl) HA0.out.out HN0.out (by omega) ?_
                   intro a6 c6 w6 hb6 hc6 hw6 hn6 hk6)
      have hbr6 : Below wr.heap.size wr w6 := ((Below.refl _ _).alloc (Nat.le_refl _) _).trans (hk6.below (by simp) (Nat.le_refl _))
      have HB6 := hid (HB.out.trans (hbr6.mono HB.out.size))
      have HBS6 := hid (HBS.out.below hbr6)
      refine (CRC32C_any a6 i c6 l0 w6 hb6 (by omega)).mono ?_
      rintro e w7 ⟨rfl, rfl⟩
      have HA1 := hid (hid ((HL1.out.below HB6.out).alloc (.cells #[] 5)))
      clear hb6 hc6 hw6 hn6 hk6 hbr6
      go_wp2_with (refine wpList_clone (by rfl) (.tmp 56) (.tmp 57) (by rfl) w6.heap.size (by rfl) (heap_new _ _) a1 i c1 l1 (by rfl) HA1.out.out HN1.out (by omega) ?_
                   intro a7 c7 w7 hb7 hc7 hw7 hn7 hk7)
      have hbr7 : Below w6.heap.size w6 w7 := ((Below.refl _ _).alloc (Nat.le_refl _) _).trans (hk7.below (by simp) (Nat.le_refl _))
      have HB7 := hid (HB6.out.trans (hbr7.mono HB6.out.size))
      have HBS7 := hid (HBS6.out.below hbr7)
      refine (CRC32C_any a7 i c7 l1 w7 hb7 (by omega)).mono ?_
      rintro e w8 ⟨rfl, rfl⟩
      have HA2 := hid (hid ((HL2.out.below HB7.out).alloc (.cells #[] 5)))
      obtain ⟨v1, v2, v3⟩ := HCL.out
      have hcrc := hid (fun (_ : Unit) => HCRC.out)
      have e0 := u32_xor_nat (crc l0) (crc l1) v1 v2
      have v4 : crc l0 ^^^ crc l1 < 4294967296 := xor_lt32 v1 v2
      have e1 := u32_xor_nat (crc l0 ^^^ crc l1) (crc l2) v4 v3
      have HE3 := hid (CRC32C_any ax i cs (s3 l0 l1 l2 i))
      have hceq : crc (s3 l0 l1 l2 i) = crc l0 ^^^ crc l1 ^^^ crc l2 := HCRC.out
      rw [hceq] at HE3
      clear hb7 hc7 hw7 hn7 hk7 hbr7 hceq
      generalize crc l0 ^^^ crc l1 ^^^ crc l2 = z3 at *
      generalize crc l0 ^^^ crc l1 = z2 at *
      have HC2' := hid (fun (a : Option Addr) (n c : Nat) (wx : World) (h : Bs wx (.slice a n c) l2) (hn : n ≤ 900000000) => CRC32C_any a n c l2 wx h hn)
      generalize crc l0 = y0 at *
      generalize crc l1 = y1 at *
      generalize crc l2 = y2 at *
      go_wp2_with (refine wpList_clone (by rfl) (.tmp 61) (.tmp 62) (by rfl) w7.heap.size (by rfl) (heap_new _ _) a2 i c2 l2 (by rfl) HA2.out.out HN2.out (by omega) ?_
                   intro a8 c8 w8 hb8 hc8 hw8 hn8 hk8)
      have hbr8 : Below w7.heap.size w7 w8 := ((Below.refl _ _).alloc (Nat.le_refl _) _).trans (hk8.below (by simp) (Nat.le_refl _))
      have HB8 := hid (HB7.out.trans (hbr8.mono HB7.out.size))
      have HBS8 := hid (HBS7.out.below hbr8)
      refine (HC2'.out a8 i c8 w8 hb8 (by omega)).mono ?_
      rintro e w9 ⟨rfl, rfl⟩
      clear hb8 hc8 hw8 hn8 hk8 hbr8
      go_wp2_with fail
      refine (HE3.out w8 HBS8.out (by omega)).mono ?_
      rintro e w9 ⟨rfl, rfl⟩
      go_wp2_with fail
      refine (HK.out w8 HB8.out).mono ?_
      rintro e w10 ⟨rfl, hb10⟩
      have HB10 := hid (HB8.out.trans (hb10.mono HB8.out.size))
      clear hb10
      go_wp2
      go_ret
      exact ⟨rfl, HB10.out⟩
end Go.Proofs.YthcgdpedjjhjpaaDoor
