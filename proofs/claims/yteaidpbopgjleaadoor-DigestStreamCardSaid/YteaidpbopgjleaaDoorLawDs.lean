/-
  DigestStream: the walk.
-/
import Derived.Test.YteaidpbopgjleaaDoorKnw
import Derived.Test.YteaidpbopgjleaaDoorOpD
import Derived.Test.YteaidpbopgjleaaDoorEq32
namespace Go.Proofs.YteaidpbopgjleaaDoor
open Go Go.RowKit
set_option linter.unusedVariables false

def rowL (r : Row4) : List Nat := r.2.2.2
/-- the first i parts, one after another -/
def catD (rs : List Row4) (i : Nat) : List Nat := (rs.take i).flatMap rowL
theorem catD_zero (rs : List Row4) : catD rs 0 = [] := rfl
theorem catD_succ (rs : List Row4) (i : Nat) (h : i < rs.length) : catD rs (i + 1) = catD rs i ++ rowL rs[i] := by
  unfold catD
  rw [List.take_succ_eq_append_getElem h, List.flatMap_append]
  simp
theorem owns_keptD {w w' : World} {base g m : Nat} {v : Value} {xs : List Value} (h : w.ownsRow base 5 1 v m xs) (k : Kept g w w') (hg : v.ownBlock ≠ some g) : w'.ownsRow base 5 1 v m xs := by
  refine ⟨h.1, ?_⟩
  rcases h.2 with h2 | ⟨q, cap, cur, h1, h2, h3, h4⟩
  · exact .inl h2
  · refine .inr ⟨q, cap, cur, h1, h2, ?_, h4⟩
    rw [k.block q (lt_of_heap h3) (fun e => hg (by rw [h1, ← e]; rfl))]
    exact h3
/-- what the loop over the parts keeps -/
structure DsI (w wr : World) (hb : Nat) (rs : List Row4) (sv : Value) (i : Nat) : Prop where
  own : wr.ownsRow (hb + 1) 5 1 sv (catD rs i).length (u8s (catD rs i))
  msg : MsgAt wr hb shaRound shaStart (catD rs i)
  bel : Below w.heap.size w wr
  len : (catD rs i).length ≤ 20000
  lt : ∀ x ∈ catD rs i, x < 256
/-- a copy of a part, or no bytes -/
def CpD (w : World) (g c m : Nat) (a : Option Addr) : Prop := 0 < m → a = some ⟨g, 0, none⟩ ∧ ∃ l : List Nat, l.length = m ∧ (∀ i, l.getD i 0 < 256) ∧ Buf w g c l
theorem owns_belowD {w w' : World} {base m : Nat} {v : Value} {xs : List Value} (h : w.ownsRow base 5 1 v m xs) (k : Below w.heap.size w w') : w'.ownsRow base 5 1 v m xs := by
  refine ⟨h.1, ?_⟩
  rcases h.2 with h2 | ⟨q, cap, cur, h1, h2, h3, h4⟩
  · exact .inl h2
  · exact .inr ⟨q, cap, cur, h1, h2, (k.block q (lt_of_heap h3)).trans h3, h4⟩
theorem set_ltD (l : List Nat) (h : ∀ i, l.getD i 0 < 256) (j y : Nat) (hy : y < 256) : ∀ i, (l.set j y).getD i 0 < 256 := fun i => by
  rw [List.getD_eq_getElem?_getD, List.getElem?_set]
  split
  · split
    · exact hy
    · decide
  · rw [← List.getD_eq_getElem?_getD]; exact h i
theorem cpD_of {w : World} {g0 c m : Nat} {a : Option Addr} {l : List Nat} (h : w.ownsRow g0 5 1 (.slice a m c) m (u8s l)) (hg : g0 < w.heap.size) (hl : ∀ i, l.getD i 0 < 256) : ∃ g, g0 ≤ g ∧ g < w.heap.size ∧ CpD w g c m a := by
  by_cases h0 : 0 < m
  · obtain ⟨g, h1, h2, h3, h4⟩ := buf_of_owns h h0
    exact ⟨g, h2, h3.lt, fun _ => ⟨h1, l, h4.symm, hl, h3⟩⟩
  · exact ⟨g0, Nat.le_refl _, hg, fun h => absurd h h0⟩

set_option maxRecDepth 100000 in
theorem Size_any (hb : Nat) (KC SH m : List Nat) (w : World) (M : MsgAt w hb KC SH m) :
    Calls Tryd.prog 12 #[.pointer (some ⟨hb, 0, none⟩)] w fun e w' => e = .returned (.int .i64 (m.length : Int)) ∧ w = w' := by
  obtain ⟨h, c, H, _, _⟩ := M
  have c72 := H.size_
  clear H
  generalize m.length = k at *
  go_enter Tryd.func12, Tryd.ntmps12
  go_wp2
  go_ret
  exact ⟨rfl, rfl⟩

set_option maxRecDepth 100000 in
set_option maxHeartbeats 4000000 in
theorem stream_walk (w : World) (V : Vars w shaRound shaStart) (v : Value) (rs : List Row4) (hP : Parts w v rs) :
    Calls Tryd.prog 3 #[v] w fun e w' => e = .returned (.bool true) ∧ Below w.heap.size w w' := by
  have HK := hid (fun (wx : World) (b : Below w.heap.size w wx) => known_dg wx (V.below b))
  have hvlt := V.lt
  obtain ⟨a, c, rfl, hcells⟩ := hP
  have HC := hid hcells
  obtain ⟨n, hn⟩ : ∃ n, n = rs.length := ⟨_, rfl⟩
  rw [← hn]
  have HN := hid hn
  have HV := hid V
  clear hcells hn V
  by_cases h1 : 200 < n
  · have hI : 200 < (n : Int) := by omega
    go_enter Tryd.func3, Tryd.ntmps3
    go_wp2_with fail
    refine (HK.out w (Below.refl _ _)).mono ?_
    rintro e w2 ⟨rfl, hb2⟩
    go_wp2
    go_ret
    exact ⟨rfl, hb2⟩
  have hI : ¬ 200 < (n : Int) := by omega
  go_enter Tryd.func3, Tryd.ntmps3
  go_wp2_with fail
  refine (NewHash_any shaRound shaStart w HV.out).mono ?_
  rintro e w1 ⟨rfl, hM1, hb1⟩
  have hz1 := hM1
  obtain ⟨hb, hhb⟩ : ∃ x, x = w.heap.size := ⟨_, rfl⟩
  rw [← hhb] at hM1 ⊢
  have hlt1 : hb < w1.heap.size := by obtain ⟨_, _, H, _⟩ := hM1; exact H.lt
  obtain ⟨w2, hw2⟩ : ∃ x, x = w1.alloc (.cells #[] 5) := ⟨_, rfl⟩
  have hb2 : Below w1.heap.size w1 w2 := by rw [hw2]; exact (Below.refl _ _).alloc (Nat.le_refl _) _
  have HI2 := hid (show DsI w w2 hb rs (.slice (some ⟨w1.heap.size, 0, none⟩) 0 0) 0 from ⟨by rw [hw2]; exact ⟨rfl, .inr ⟨w1.heap.size, 0, #[], rfl, hlt1, heap_new _ _, Nat.le_refl _, Nat.zero_le _, rfl, rfl⟩⟩, hM1.same (hb2.block hb hlt1), hb1.trans (hb2.mono hb1.size), Nat.zero_le _, fun x hx => absurd hx List.not_mem_nil⟩)
  have h3 : 2 ≤ hb := by omega
  have HHB := hid hhb
  clear hM1 hz1 hb1 hb2 hhb hlt1
  go_wp2
  change Code.wp _ _ _ _ (w1.alloc (.cells #[] 5))
  rw [← hw2]
  clear hw2
  go_loopw [4, 5] (fun sv iv wr => ∃ i : Nat, i ≤ n ∧ iv = .int .i64 i ∧ Hid (DsI w wr hb rs sv i)) (fun _ iv _ => n - (intOf iv).toNat)
  case atStart => exact ⟨0, by omega, rfl, HI2⟩
  case round =>
    clear HI2
    obtain ⟨i, hi, rfl, HI⟩ := hrel
    by_cases hin : i < n
    case neg =>
      obtain rfl : i = n := by omega
      have hnn : ¬ ((i : Int) < (i : Int)) := by omega
      go_wp2_with fail
      refine (HK.out wr HI.out.bel).mono ?_
      rintro e wz ⟨rfl, hbz⟩
      have HBZ := hid (HI.out.bel.trans (hbz.mono HI.out.bel.size))
      clear hbz
      go_wp2
      go_ret
      exact ⟨rfl, HBZ.out⟩
    have hIn : (i : Int) < (n : Int) := by omega
    have hil : i < rs.length := by rw [← HN.out]; exact hin
    obtain ⟨b, o, rfl, hcell⟩ := HC.out (fun e => by rw [e] at hil; exact absurd hil (Nat.not_lt_zero _))
    obtain ⟨hc0, hby⟩ := hcell i hil
    have hcs := catD_succ rs i hil
    generalize rs[i] = q at *
    obtain ⟨pa, pn, pc, pl⟩ := q
    obtain ⟨hbsw, hpc, hpnil⟩ := hby
    obtain ⟨sa, sc, rfl, -, hcs2, hbs2, hls2⟩ := bs_of_owns HI.out.own HI.out.lt
    have c1 : wr.cell? ⟨b, o + i, none⟩ = some (.slice pa pn pc) := (HI.out.bel.cell (World.block_lt_of_cell? _ _ hc0)).trans hc0
    have hblt : b < wr.heap.size := World.block_lt_of_cell? _ _ c1
    obtain ⟨m, hm⟩ : ∃ m, m = (catD rs i).length := ⟨_, rfl⟩
    rw [← hm]
    have HOWN := hid (show wr.ownsRow (hb + 1) 5 1 (.slice sa m sc) m (u8s (catD rs i)) from by rw [hm]; exact HI.out.own)
    have hm20 : m ≤ 20000 := by rw [hm]; exact HI.out.len
    have t1 : IntKind.i64.wrap (20000 - (m : Int)) = 20000 - (m : Int) := by rw [IntKind.wrap_i64]; omega
    have HCELL := hid hc0
    have HBSW := hid hbsw
    have HM := hid hm
    have HCS := hid hcs
    have HBS2 := hid hbs2
    have HLS2 := hid hls2
    have HPNIL := hid hpnil
    have HPL := hid hbsw.len
    clear hcell hc0 hbsw hm hcs hbs2 hls2 hpnil
    by_cases h20 : 20000 - m < pn
    · have hg : 20000 - (m : Int) < (pn : Int) := by omega
      go_wp2_with fail
      refine (HK.out wr HI.out.bel).mono ?_
      rintro e wz ⟨rfl, hbz⟩
      have HBZ := hid (HI.out.bel.trans (hbz.mono HI.out.bel.size))
      clear hbz
      go_wp2
      go_ret
      exact ⟨rfl, HBZ.out⟩
    have hg : ¬ 20000 - (m : Int) < (pn : Int) := by omega
    have HA := hid (hid ((HBSW.out.below HI.out.bel).alloc (.cells #[] 5)))
    obtain ⟨wo, rfl⟩ : ∃ x, x = wr := ⟨_, rfl⟩
    have hslo : sa = none ∨ ∃ q, sa = some ⟨q, 0, none⟩ ∧ hb + 1 ≤ q ∧ q < wo.heap.size := by
      rcases HI.out.own.2 with ⟨h, _⟩ | ⟨q, cap, cur, h1, h2, h3, h4⟩
      · simp only [Value.slice.injEq] at h; exact .inl h.1
      · simp only [Value.slice.injEq] at h1; exact .inr ⟨q, h1.1, h2, lt_of_heap h3⟩
    have HSLO := hid (show ∀ k, (Value.slice sa m sc).ownBlock = some k → hb + 1 ≤ k ∧ k < wo.heap.size from fun k hk => by
      rcases hslo with h | ⟨q, h, h1, h2⟩
      · subst h; cases hk
      · subst h
        simp only [Value.ownBlock, Option.some.injEq] at hk
        subst hk
        exact ⟨h1, h2⟩)
    clear hslo
    go_wp2_with (refine wpList_cloneB (by rfl) (.tmp 32) (.tmp 36) (by rfl) wo.heap.size (by rfl) (heap_new _ _) pa pn pc pl (by rfl) HA.out.out HPNIL.out (by omega) ?_
                 intro a5 c5 w5 hb5 hc5 hw5 hn5 hk5 hown5)
    have HB5 := hid (show Below wo.heap.size wo w5 from ((Below.refl _ _).alloc (Nat.le_refl _) _).trans (hk5.below (by simp) (Nat.le_refl _)))
    have hwz := HI.out.bel.size
    have hhb := HHB.out
    have hslt : hb < wo.heap.size := by obtain ⟨_, _, H, _⟩ := HI.out.msg; exact H.lt
    obtain ⟨g, hg0, hglt, hcp⟩ := cpD_of hown5 (by have := hk5.size; simp at this; omega) HBSW.out.lt
    have HCP5 := hid hcp
    have HM5 := hid (HI.out.msg.same (HB5.out.block hb hslt))
    have HW5 := hid (HI.out.bel.trans (HB5.out.mono hwz))
    have HO5 := hid (owns_belowD HOWN.out HB5.out)
    have HBSL := hid (HBS2.out.below HB5.out)
    have HQ := hid (Write_gen hb pn c5 a5 shaRound shaStart (catD rs i) pl w5 HM5.out (HV.out.below HW5.out) h3 hb5 hc5 (fun h0 => off_to (fun ad e => by have := (hw5 ad e).1; omega)) (by rw [← HM.out]; omega))
    clear hb5 hc5 hw5 hn5 hk5 hown5 hcp hhb
    refine HQ.out.mono ?_
    clear HQ
    rintro e w6 ⟨rfl, hM6, hk6⟩
    have hs56 := HB5.out.size
    have hgne : g ≠ hb := by omega
    have HM6 := hid hM6
    have HW6 := hid (HW5.out.trans (hk6.below HW5.out.size (by rw [HHB.out]; exact Nat.le_refl _)))
    have HO6 := hid (owns_keptD HO5.out hk6 (fun e => by have := HSLO.out _ e; omega))
    have HCP6 := hid (show CpD w6 g c5 pn a5 from fun h0 => by
      obtain ⟨h1, l, h2, h3, h4⟩ := HCP5.out h0
      exact ⟨h1, l, h2, h3, h4.of_same (hk6.block g hglt hgne)⟩)
    have HG6 := hid (show g < w6.heap.size from Nat.lt_of_lt_of_le hglt hk6.size)
    clear hM6 hk6
    go_wp2
    go_loopw [7] (fun jv wx => ∃ j : Nat, j ≤ pn ∧ jv = .int .i64 j ∧ Hid (CpD wx g c5 pn a5) ∧ Hid (Kept g w6 wx)) (fun jv _ => pn - (intOf jv).toNat)
    case atStart => exact ⟨0, by omega, rfl, HCP6, hid (Kept.refl _ _)⟩
    case round =>
      clear HCP6
      obtain ⟨j, hj, rfl, HCP, HKX⟩ := hrel
      by_cases hjn : j < pn
      · have hJ : (j : Int) < (pn : Int) := by omega
        obtain ⟨rfl, l, hl1, hl2, hbuf⟩ := HCP.out (by omega)
        have k1 := hbuf.cell j (by omega)
        have f1 := hbuf.free j
        have hx := hl2 j
        have HST := hid (fun y => hbuf.set j y (by omega))
        have HL1 := hid hl1
        have HL2 := hid hl2
        clear hl1 hl2 hbuf
        generalize l.getD j 0 = x at *
        have j3 : bits .xor .u8 (x : Int) 255 = ((x ^^^ 255 : Nat) : Int) := u8_xor_nat x 255 hx (by decide)
        have hy : x ^^^ 255 < 256 := Nat.xor_lt_two_pow (n := 8) hx (by decide)
        have HNX := hid (show CpD (wr.setCell ⟨g, j, none⟩ (.int .u8 ((x ^^^ 255 : Nat) : Int))) g c5 pn (some ⟨g, 0, none⟩) from fun _ => ⟨rfl, _, by rw [List.length_set]; exact HL1.out, set_ltD l HL2.out j _ hy, HST.out _⟩)
        have HKN := hid (HKX.out.setCell (p := ⟨g, j, none⟩) rfl (.int .u8 ((x ^^^ 255 : Nat) : Int)))
        generalize x ^^^ 255 = y at *
        go_wp2
        exact ⟨⟨j + 1, by omega, by go_num, HNX, HKN⟩, by simp [intOf]; omega⟩
      obtain rfl : j = pn := by omega
      have hJ : ¬ ((j : Int) < (j : Int)) := by omega
      have hgw : w.heap.size ≤ g := by omega
      have HWX := hid (HW6.out.trans (HKX.out.below HW6.out.size hgw))
      have HOX := hid (owns_keptD HO6.out HKX.out (fun e => by have := HSLO.out _ e; omega))
      have hltx : hb < w6.heap.size := by obtain ⟨_, _, H, _⟩ := HM6.out; exact H.lt
      have HMX := hid (HM6.out.same (HKX.out.block hb hltx (by omega)))
      have cx : wr.cell? ⟨b, o + i, none⟩ = some (.slice pa j pc) := (HWX.out.cell (World.block_lt_of_cell? _ _ HCELL.out)).trans HCELL.out
      have HBX := hid (HBSW.out.below HWX.out)
      have hbx : hb + 1 ≤ wr.heap.size := by have := HKX.out.size; omega
      have HALL := hid (show ∀ z ∈ catD rs i ++ pl, z < 256 from fun z hz => by
        rcases List.mem_append.1 hz with h | h
        · exact HI.out.lt z h
        · obtain ⟨_, _, _, h2, _⟩ := HBSW.out
          exact h2 z h)
      have hlen : (catD rs i ++ pl).length = m + j := by rw [List.length_append, ← HM.out, ← HPL.out]
      have HLEN := hid hlen
      have hmj : m + j ≤ 461168601842 := by omega
      have hmj2 : m + j ≤ 20000 := by omega
      clear hlen HCP HBSL HO6 HM6 HW6 hltx HCP5 HM5 HW5 HO5
      obtain ⟨wx, rfl⟩ : ∃ x, x = wr := ⟨_, rfl⟩
      go_wp2_with (refine wpList_raw (by rfl) (.tmp 53) (.tmp 57) (by rfl) (hb + 1) m (.slice sa m sc) (catD rs i) (by rfl) HOX.out pa j pc pl (by rfl) HBX.out HPNIL.out hmj hbx ?_
                   intro v7 w7 hown7 hg7 hsr7
                   obtain ⟨a7, c7, e7, -, hc7, hbs7, hls7⟩ := bs_of_owns hown7 HALL.out
                   subst e7)
      have HM7 := hid (show MsgAt w7 hb shaRound shaStart (catD rs i ++ pl) from HMX.out.same (hg7.block hb (by omega) (fun e => by have := HSLO.out _ e.symm; omega)))
      have HW7 := hid (show Below w.heap.size w w7 from HWX.out.grown hg7 HWX.out.size (fun k hk => by have := HSLO.out k hk; have := HHB.out; omega))
      have HO7 := hid hown7
      have HBS7 := hid hbs7
      have HNIL7 := hid (show a7 = none → c7 = 0 from fun e => by
        rcases hown7.2 with ⟨h, _⟩ | ⟨q, cap, cur, h, _⟩
        · simp only [Value.slice.injEq] at h; exact h.2.2
        · simp only [Value.slice.injEq] at h; rw [e] at h; cases h.1)
      have HSZ := hid (Size_any hb shaRound shaStart (catD rs i ++ pl) w7 HM7.out)
      have HSM := hid (Sum_any hb shaRound shaStart (catD rs i ++ pl) w7 HM7.out (HV.out.below HW7.out) h3 (by rw [HLEN.out]; omega))
      have HSH := hid (fun (ax : Option Addr) (cx : Nat) (wy : World) (h : Bs wy (.slice ax (m + j) cx) (catD rs i ++ pl)) (hc : m + j ≤ cx) (hv : Below w.heap.size w wy) => SHA256_any ax (m + j) cx shaRound shaStart (catD rs i ++ pl) wy (HV.out.below hv) h hc (by omega))
      have hl32 := dig_length shaRound shaStart (catD rs i ++ pl)
      have e1 := fun wy => eql_sameD (dig shaRound shaStart (catD rs i ++ pl)) hl32 wy
      rw [HLEN.out] at HSZ
      generalize dig shaRound shaStart (catD rs i ++ pl) = D at *
      have hmjt : (((m + j : Nat) : Int) != ((m + j : Nat) : Int)) = false := by simp
      obtain ⟨k, hk⟩ : ∃ k, k = m + j := ⟨_, rfl⟩
      rw [← hk] at hmjt hc7 HO7 HBS7 HSZ HSH hmj hmj2 HLEN ⊢
      have HKE := hid hk
      clear hown7 hg7 hsr7 hbs7 hls7 hl32 hk
      go_wp2_with fail
      refine HSZ.out.mono ?_
      rintro e w8 ⟨rfl, rfl⟩
      go_wp2_with fail
      refine HSM.out.mono ?_
      rintro e w8 ⟨rfl, hb8⟩
      have HW8 := hid (HW7.out.trans (hb8.mono HW7.out.size))
      have HM8 := hid (HM7.out.same (hb8.block hb (by obtain ⟨_, _, H, _⟩ := HM7.out; exact H.lt)))
      have HO8 := hid (owns_belowD HO7.out hb8)
      have HBS8 := hid (HBS7.out.below hb8)
      have HA8 := hid (hid (HBS8.out.alloc (.cells #[] 5)))
      clear hb8 HSM HSZ
      go_wp2_with (refine wpList_cloneG (by rfl) (.tmp 67) (.tmp 68) (by rfl) w8.heap.size (by rfl) (heap_new _ _) a7 k c7 (catD rs i ++ pl) (by rfl) HA8.out.out HNIL7.out (by omega) ?_
                   intro a9 c9 w9 hb9 hc9 hw9 hn9 hk9 hown9)
      have HB9 := hid (show Below w8.heap.size w8 w9 from ((Below.refl _ _).alloc (Nat.le_refl _) _).trans (hk9.below (by simp) (Nat.le_refl _)))
      have HW9 := hid (HW8.out.trans (HB9.out.mono HW8.out.size))
      have HQ9 := hid (HSH.out a9 c9 w9 hb9 hc9 HW9.out)
      clear hb9 hc9 hw9 hn9 hk9 hown9
      refine HQ9.out.mono ?_
      rintro e w10 ⟨rfl, hb10⟩
      have HB10 := hid (HB9.out.trans (hb10.mono HB9.out.size))
      have HW10 := hid (HW8.out.trans (HB10.out.mono HW8.out.size))
      have HM10 := hid (HM8.out.same (HB10.out.block hb (by obtain ⟨_, _, H, _⟩ := HM8.out; exact H.lt)))
      have HO10 := hid (owns_belowD HO8.out HB10.out)
      have HI10 := hid (show DsI w w10 hb rs (.slice a7 k c7) (i + 1) from by
        have hcs : catD rs (i + 1) = catD rs i ++ pl := HCS.out
        refine ⟨?_, ?_, HW10.out, ?_, ?_⟩
        · rw [hcs, HLEN.out]; exact HO10.out
        · rw [hcs]; exact HM10.out
        · rw [hcs, HLEN.out]; exact hmj2
        · rw [hcs]; exact HALL.out)
      clear hb10 HQ9 HSH
      go_wp2
      exact ⟨⟨i + 1, by omega, by go_num, HI10⟩, by simp [intOf]; omega⟩
end Go.Proofs.YteaidpbopgjleaaDoor
