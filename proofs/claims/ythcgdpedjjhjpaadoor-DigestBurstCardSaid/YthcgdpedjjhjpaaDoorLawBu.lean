/-
  DigestBurst: the walk.
-/
import Derived.Test.YthcgdpedjjhjpaaDoorKnw
import Derived.Test.YthcgdpedjjhjpaaDoorCrcM
namespace Go.Proofs.YthcgdpedjjhjpaaDoor
open Go Go.RowKit
set_option linter.unusedVariables false

/-- the message with i of its four bytes changed -/
def bl (l : List Nat) (p : Nat) (M : Nat → Nat) (i : Nat) : List Nat := (List.range l.length).map fun j => if p ≤ j ∧ j < p + i then l.getD j 0 ^^^ M (j - p) else l.getD j 0
theorem bl_length (l : List Nat) (p : Nat) (M : Nat → Nat) (i : Nat) : (bl l p M i).length = l.length := by simp [bl]
theorem bl_getD (l : List Nat) (p : Nat) (M : Nat → Nat) (i j : Nat) (hj : j < l.length) : (bl l p M i).getD j 0 = if p ≤ j ∧ j < p + i then l.getD j 0 ^^^ M (j - p) else l.getD j 0 := by
  unfold bl
  rw [List.getD_eq_getElem?_getD, List.getElem?_map, List.getElem?_range hj]
  rfl
theorem bl_zero (l : List Nat) (p : Nat) (M : Nat → Nat) : bl l p M 0 = l := by
  refine getD_ext2 (bl_length _ _ _ _) fun j hj => ?_
  rw [bl_length] at hj
  rw [bl_getD _ _ _ _ _ hj, if_neg (by omega)]
theorem bl_step (l : List Nat) (p : Nat) (M : Nat → Nat) (i : Nat) (hi : p + i < l.length) : (bl l p M i).set (p + i) (l.getD (p + i) 0 ^^^ M i) = bl l p M (i + 1) := by
  refine getD_ext2 (by rw [List.length_set, bl_length, bl_length]) fun j hj => ?_
  rw [List.length_set, bl_length] at hj
  rw [set_getD2 _ _ _ _ (by rw [bl_length]; exact hi), bl_getD _ _ _ _ _ hj, bl_getD _ _ _ _ _ hj]
  by_cases e : j = p + i
  · rw [if_pos e, if_pos (by omega), e, Nat.add_sub_cancel_left]
  · rw [if_neg e]
    by_cases h : p ≤ j ∧ j < p + i
    · rw [if_pos h, if_pos (by omega)]
    · rw [if_neg h, if_neg (by omega)]
theorem bl_lt (l : List Nat) (p : Nat) (M : Nat → Nat) (i : Nat) (hl : ∀ j, l.getD j 0 < 256) (hM : ∀ j, M j < 256) : ∀ x ∈ bl l p M i, x < 256 := fun x hx => by
  unfold bl at hx
  obtain ⟨j, _, rfl⟩ := List.mem_map.1 hx
  split
  · exact Nat.xor_lt_two_pow (n := 8) (hl j) (hM _)
  · exact hl j
theorem bl_dif (l : List Nat) (p : Nat) (M : Nat → Nat) (hp : p + 4 ≤ l.length) (j : Nat) : l.getD j 0 ^^^ (bl l p M 4).getD j 0 = if p ≤ j ∧ j < p + 4 then M (j - p) else 0 := by
  by_cases hj : j < l.length
  · rw [bl_getD _ _ _ _ _ hj]
    by_cases h : p ≤ j ∧ j < p + 4
    · rw [if_pos h, if_pos h, ← Nat.xor_assoc, Nat.xor_self, Nat.zero_xor]
    · rw [if_neg h, if_neg h, Nat.xor_self]
  · rw [if_neg (by omega), List.getD_eq_getElem?_getD, List.getD_eq_getElem?_getD, List.getElem?_eq_none (by omega), List.getElem?_eq_none (by rw [bl_length]; omega)]
    rfl
def mk4 (mask j : Nat) : Nat := mask / 2 ^ (8 * j) % 256
theorem mk4_lt (mask j : Nat) : mk4 mask j < 256 := Nat.mod_lt _ (by decide)
theorem mk4_ne (mask : Nat) (h : mask < 4294967296) (h0 : mask ≠ 0) : ¬ (mk4 mask 0 = 0 ∧ mk4 mask 1 = 0 ∧ mk4 mask 2 = 0 ∧ mk4 mask 3 = 0) := by
  unfold mk4
  simp only [Nat.mul_zero, Nat.pow_zero, Nat.div_one, Nat.mul_one, Nat.reduceMul, Nat.reducePow]
  omega
theorem burst_crc (l : List Nat) (p mask : Nat) (hp : p + 4 ≤ l.length) (h : mask < 4294967296) (h0 : mask ≠ 0) : crc l ≠ crc (bl l p (mk4 mask) 4) :=
  crc_burst l _ l.length p rfl (bl_length _ _ _ _) hp (mk4 mask) (mk4_lt mask) (bl_dif l p (mk4 mask) hp) (mk4_ne mask h h0)

set_option maxRecDepth 100000 in
set_option maxHeartbeats 2000000 in
theorem burst_walk (w : World) (V : Vars w shaRound shaStart) (a : Option Addr) (n c : Nat) (l : List Nat) (hl : Bs w (.slice a n c) l) (hc : n ≤ c) (hnil : a = none → c = 0) (at_ : Int) (mask : Nat) (hm : mask < 4294967296) :
    Calls Tryd.prog 18 #[.slice a n c, .int .i64 at_, .int .u32 (mask : Int)] w fun e w' => e = .returned (.bool true) ∧ Below w.heap.size w w' := by
  have HK := hid (fun (wx : World) (b : Below w.heap.size w wx) => known_dg wx (V.below b))
  have HL := hid hl
  have HNIL := hid hnil
  have hlen := hl.len
  have HLEN := hid (fun (_ : Unit) => hlen)
  clear V hl hnil
  by_cases h1 : 20000 < n
  · have hI : 20000 < (n : Int) := by omega
    clear hlen
    go_enter Tryd.func18, Tryd.ntmps18
    go_wp2_with fail
    refine (HK.out w (Below.refl _ _)).mono ?_
    rintro e w2 ⟨rfl, hb2⟩
    go_wp2
    go_ret
    exact ⟨rfl, hb2⟩
  have g1 : ¬ 20000 < (n : Int) := by omega
  by_cases h2 : at_ < 0
  · clear hlen
    go_enter Tryd.func18, Tryd.ntmps18
    go_wp2_with fail
    refine (HK.out w (Below.refl _ _)).mono ?_
    rintro e w2 ⟨rfl, hb2⟩
    go_wp2
    go_ret
    exact ⟨rfl, hb2⟩
  by_cases h3 : n < 4
  · have g3 : (n : Int) < 4 := by omega
    clear hlen
    go_enter Tryd.func18, Tryd.ntmps18
    go_wp2_with fail
    refine (HK.out w (Below.refl _ _)).mono ?_
    rintro e w2 ⟨rfl, hb2⟩
    go_wp2
    go_ret
    exact ⟨rfl, hb2⟩
  have g3 : ¬ (n : Int) < 4 := by omega
  have g4w : IntKind.i64.wrap ((n : Int) - 4) = (n : Int) - 4 := by rw [IntKind.wrap_i64]; omega
  by_cases h4 : (n : Int) - 4 < at_
  · clear hlen
    go_enter Tryd.func18, Tryd.ntmps18
    go_wp2_with fail
    refine (HK.out w (Below.refl _ _)).mono ?_
    rintro e w2 ⟨rfl, hb2⟩
    go_wp2
    go_ret
    exact ⟨rfl, hb2⟩
  by_cases h5 : mask = 0
  · have g5 : (((mask : Nat) : Int) == 0) = true := by rw [h5]; rfl
    clear hlen h5
    go_enter Tryd.func18, Tryd.ntmps18
    go_wp2_with fail
    refine (HK.out w (Below.refl _ _)).mono ?_
    rintro e w2 ⟨rfl, hb2⟩
    go_wp2
    go_ret
    exact ⟨rfl, hb2⟩
  have g5 : (((mask : Nat) : Int) == 0) = false := by rw [beq_eq_false_iff_ne]; omega
  obtain ⟨p, rfl⟩ : ∃ p : Nat, at_ = (p : Int) := ⟨at_.toNat, by omega⟩
  have hp4 : p + 4 ≤ n := by omega
  have HCN := hid (burst_crc l p mask (by rw [← hlen]; exact hp4) hm h5)
  have HBR := hid (fun i hi => bl_step l p (mk4 mask) i hi)
  have HBZ := hid (bl_zero l p (mk4 mask))
  have HBL := hid (fun i => bl_lt l p (mk4 mask) i HL.out.lt (mk4_lt mask))
  have HBG := hid (fun i j hj => bl_getD l p (mk4 mask) i j hj)
  have HBN := hid (fun i => (bl_length l p (mk4 mask) i).trans hlen.symm)
  have HLT := hid HL.out.lt
  have HA0 := hid (hid (HL.out.alloc (.cells #[] 5)))
  clear hlen h5
  go_enter Tryd.func18, Tryd.ntmps18
  go_wp2_with (refine wpList_cloneB (by rfl) (.tmp 33) (.tmp 34) (by rfl) w.heap.size (by rfl) (heap_new _ _) a n c l (by rfl) HA0.out.out HNIL.out (by omega) ?_
               intro a5 c5 w5 hb5 hc5 hw5 hn5 hk5 hown5)
  obtain ⟨g, rfl, hg, hbuf, hnl⟩ := buf_of_owns hown5 (by omega)
  have HB5 := hid (show Below w.heap.size w w5 from ((Below.refl _ _).alloc (Nat.le_refl _) _).trans (hk5.below (by simp) (Nat.le_refl _)))
  have HBU := hid (show Buf w5 g c5 (bl l p (mk4 mask) 0) from by rw [HBZ.out]; exact hbuf)
  clear hb5 hn5 hk5 hown5 hbuf HBZ hnl hw5
  go_loopw [8] (fun iv wr => ∃ i : Nat, i ≤ 4 ∧ iv = .int .i64 i ∧ Hid (Buf wr g c5 (bl l p (mk4 mask) i)) ∧ Hid (Below w.heap.size w wr)) (fun iv _ => 4 - (intOf iv).toNat)
  case atStart => exact ⟨0, by omega, rfl, HBU, HB5⟩
  case round =>
    clear HBU HB5
    obtain ⟨i, hi, rfl, HBU, HB⟩ := hrel
    by_cases hi4 : i < 4
    · have hI : (i : Int) < 4 := by omega
      have hil : p + i < l.length := by rw [← HLEN.out ()]; omega
      have hst := HBR.out i hil
      have c1 := HBU.out.cell (p + i) (by rw [bl_length]; exact hil)
      rw [HBG.out i (p + i) hil, if_neg (by omega)] at c1
      have f1 := HBU.out.free (p + i)
      have HSET := hid (hst ▸ HBU.out.set (p + i) (l.getD (p + i) 0 ^^^ mk4 mask i) (by rw [bl_length]; exact hil))
      have HB2 := hid (show Below w.heap.size w (wr.setCell ⟨g, p + i, none⟩ (.int .u8 ((l.getD (p + i) 0 ^^^ mk4 mask i : Nat) : Int))) from HB.out.setCell hg _)
      have hy := HLT.out (p + i)
      have hx := mk4_lt mask i
      have hqn : p + i < n := by omega
      obtain ⟨q, hq⟩ : ∃ q, q = p + i := ⟨_, rfl⟩
      obtain ⟨sh, hsh⟩ : ∃ sh, sh = 8 * i := ⟨_, rfl⟩
      have t9 : IntKind.u8.wrap ((mask : Int) / 2 ^ sh) = ((mk4 mask i : Nat) : Int) := by
        have e : (mask : Int) / 2 ^ sh = ((mask / 2 ^ sh : Nat) : Int) := by norm_cast
        rw [e, IntKind.wrap_u8, hsh]
        unfold mk4
        omega
      rw [← hq] at c1 f1 HSET HB2 hy hqn
      have t1 : IntKind.i64.wrap ((p : Int) + (i : Int)) = (q : Int) := by rw [IntKind.wrap_i64]; omega
      have t2 : IntKind.u64.wrap (i : Int) = (i : Int) := by rw [IntKind.wrap_u64]; omega
      have t3 : IntKind.u64.wrap (8 * (i : Int)) = (sh : Int) := by rw [IntKind.wrap_u64]; omega
      have t4 : 8 * (i : Int) = (sh : Int) := by omega
      have t5 : (0 : Int) ≤ (sh : Int) := by omega
      have t6 : (sh : Int) ≤ 24 := by omega
      have t7 : (p : Int) + (i : Int) = (q : Int) := by omega
      have t8 : (q : Int) < (n : Int) := by omega
      generalize mk4 mask i = x at *
      generalize l.getD q 0 = y at *
      have j3 : bits .xor .u8 (y : Int) (x : Int) = ((y ^^^ x : Nat) : Int) := u8_xor_nat y x hy hx
      generalize y ^^^ x = z at *
      clear hst hq hsh hil
      go_wp2
      exact ⟨⟨i + 1, by omega, by go_num, HSET, HB2⟩, by simp [intOf]; omega⟩
    · obtain rfl : i = 4 := by omega
      have hI : ¬ (((4 : Nat) : Int) < 4) := by omega
      have HA1 := hid (hid ((HL.out.below HB.out).alloc (.cells #[] 5)))
      have hgr := HBU.out.lt
      go_wp2_with (refine wpList_clone (by rfl) (.tmp 54) (.tmp 55) (by rfl) wr.heap.size (by rfl) (heap_new _ _) a n c l (by rfl) HA1.out.out HNIL.out (by omega) ?_
                   intro a6 c6 w6 hb6 hc6 hw6 hn6 hk6)
      have hbr6 : Below wr.heap.size wr w6 := ((Below.refl _ _).alloc (Nat.le_refl _) _).trans (hk6.below (by simp) (Nat.le_refl _))
      have HBU6 := hid (HBU.out.of_same (hbr6.block g hgr))
      have HB6 := hid (HB.out.trans (hbr6.mono HB.out.size))
      have hc1 := hid (CRC32C_any a6 n c6 l w6 hb6 (by omega))
      have hbs4 := HBU6.out.bs (HBL.out 4) c5
      rw [HBN.out 4] at hbs4
      have hc2 := hid (CRC32C_any (some ⟨g, 0, none⟩) n c5 (bl l p (mk4 mask) 4) w6 hbs4 (by omega))
      have hcn := HCN.out
      generalize crc l = u at *
      generalize crc (bl l p (mk4 mask) 4) = v at *
      have k1 : (((u : Nat) : Int) == ((v : Nat) : Int)) = false := by rw [beq_eq_false_iff_ne]; omega
      have k2 : (((u : Nat) : Int) != ((v : Nat) : Int)) = true := by rw [bne_iff_ne]; omega
      clear hcn hb6 hc6 hw6 hn6 hk6 hbr6 hbs4 HCN
      refine hc1.out.mono ?_
      rintro e w7 ⟨rfl, rfl⟩
      go_wp2_with fail
      refine hc2.out.mono ?_
      rintro e w7 ⟨rfl, rfl⟩
      go_wp2_with fail
      refine (HK.out w6 HB6.out).mono ?_
      rintro e w8 ⟨rfl, hb8⟩
      have HB8 := hid (HB6.out.trans (hb8.mono HB6.out.size))
      clear hb8
      go_wp2
      go_ret
      exact ⟨rfl, HB8.out⟩
end Go.Proofs.YthcgdpedjjhjpaaDoor
