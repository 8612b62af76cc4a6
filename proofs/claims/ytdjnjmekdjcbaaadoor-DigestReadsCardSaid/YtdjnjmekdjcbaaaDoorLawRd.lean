/-
  DigestReads: the walk.
-/
import Derived.Test.YtdjnjmekdjcbaaaDoorKnw
import Derived.Test.YtdjnjmekdjcbaaaDoorRd2
import Derived.Test.YtdjnjmekdjcbaaaDoorRfd
import Derived.Test.YtdjnjmekdjcbaaaDoorClsD
import Derived.Deep.RegionHeld3
import Derived.Deep.DeepCutAuto
namespace Go.Proofs.YtdjnjmekdjcbaaaDoor
open Go Go.RowKit
set_option linter.unusedVariables false

/-- what the loop over the calls keeps: the Reader, the reference's state beside it -/
structure RdI (w wr : World) (rb sk B : Nat) (a : Option Addr) (c : Nat) (sa : Option Addr) (sc : Nat) (l : List Nat) (err : Int) : Prop where
  rd : RdAt wr rb a c l err
  ra : ∀ ad, a = some ad → ad.block < B ∧ ad.block ≠ sk
  sq : wr.heap[sk]? = some (.cells #[.slice sa l.length sc, .int .i64 err] 43 (0, 0))
  st : Bs wr (.slice sa l.length sc) l
  scl : l.length ≤ sc
  sn : sa = none → sc = 0
  sb : ∀ ad, sa = some ad → ad.block < B ∧ ad.block ≠ rb ∧ ad.block ≠ sk
  bel : Below w.heap.size w wr
  lo : w.heap.size ≤ rb
  ls : w.heap.size ≤ sk
  hi : rb < B
  hs : sk < B
  rs : rb ≠ sk
  top : B ≤ wr.heap.size
  len : l.length ≤ 200000
theorem Src.below {a a' : Option Addr} (h : Src a a') {B : Nat} (hb : ∀ ad, a = some ad → ad.block < B) : ∀ ad, a' = some ad → ad.block < B := fun ad e => by
  by_cases hx : ad.block < B
  · exact hx
  · exact absurd rfl (h ad.block (fun ad' e' h' => by have := hb ad' e'; omega) ad e)
theorem rop_len (l : List Nat) (err k nn : Int) : (rop l err k nn).2.2.1.length ≤ l.length := by
  have ht : ∀ (l : List Nat) (err n : Int), (rtake l err n).2.1.length ≤ l.length := fun l err n => by
    unfold rtake
    split
    · exact Nat.le_refl _
    · split
      · exact Nat.le_refl _
      · split
        · exact Nat.le_refl _
        · simp only [List.length_drop]; omega
  have htx : (rtext l err).2.1.length ≤ l.length := by
    unfold rtext
    simp only
    split
    · exact Nat.le_refl _
    · exact Nat.le_trans (ht _ _ _) (ht _ _ _)
  unfold rop
  split
  · exact ht _ _ _
  · split
    · exact ht _ _ _
    · split
      · exact ht _ _ _
      · split
        · exact ht _ _ _
        · split
          · exact ht _ _ _
          · split
            · exact htx
            · exact Nat.le_refl _

theorem rop_xlen (l : List Nat) (err k nn : Int) : (rop l err k nn).2.1.length ≤ l.length := by
  have ht : ∀ (l : List Nat) (err n : Int), (rtake l err n).1.length ≤ l.length := fun l err n => by
    unfold rtake
    split
    · exact Nat.zero_le _
    · split
      · exact Nat.zero_le _
      · split
        · exact Nat.zero_le _
        · simp only [List.length_take]; omega
  have ht2 : ∀ (l : List Nat) (err n : Int), (rtake l err n).2.1.length ≤ l.length := fun l err n => by
    unfold rtake
    split
    · exact Nat.le_refl _
    · split
      · exact Nat.le_refl _
      · split
        · exact Nat.le_refl _
        · simp only [List.length_drop]; omega
  have htx : (rtext l err).1.length ≤ l.length := by
    unfold rtext
    simp only
    split
    · exact Nat.le_trans (ht _ _ _) (ht2 _ _ _)
    · exact Nat.le_trans (ht _ _ _) (ht2 _ _ _)
  unfold rop
  split
  · exact Nat.zero_le _
  · split
    · exact Nat.zero_le _
    · split
      · exact Nat.zero_le _
      · split
        · exact Nat.zero_le _
        · split
          · exact ht _ _ _
          · split
            · exact htx
            · exact Nat.zero_le _
theorem set2_in {w : World} {tb : Nat} {u v x y : Value} {T : TypeId} (h : w.heap[tb]? = some (.cells #[u, v] T (0, 0))) : ((w.setCell ⟨tb, 0, none⟩ x).setCell ⟨tb, 1, none⟩ y).heap[tb]? = some (.cells #[x, y] T (0, 0)) := by
  have h1 : (w.setCell ⟨tb, 0, none⟩ x).heap[tb]? = some (.cells #[x, v] T (0, 0)) := heap_set (cs := #[u, v]) h 0 x
  exact heap_set (cs := #[x, v]) h1 1 y
/-- bytes do not lie in a block of two cells that are no bytes -/
theorem Bs.set_in {w : World} {a : Option Addr} {n c tb : Nat} {l : List Nat} (h : Bs w (.slice a n c) l) {sl : Value} {e : Int} {T : TypeId} (hs : ∀ z, sl ≠ .int .u8 z) (ht : w.heap[tb]? = some (.cells #[sl, .int .i64 e] T (0, 0))) (x y : Value) :
    Bs ((w.setCell ⟨tb, 0, none⟩ x).setCell ⟨tb, 1, none⟩ y) (.slice a n c) l := by
  have hk : Kept tb w ((w.setCell ⟨tb, 0, none⟩ x).setCell ⟨tb, 1, none⟩ y) := ((Kept.refl tb w).setCell (p := ⟨tb, 0, none⟩) rfl _).setCell (p := ⟨tb, 1, none⟩) rfl _
  rcases h.addr with ⟨h0, _⟩ | ⟨h0, b, o, c', hv⟩
  · have hl := h.len
    subst h0
    obtain rfl : n = 0 := hl
    exact bs_nilH _ _ _
  · simp only [Value.slice.injEq] at hv
    obtain ⟨rfl, h2, rfl⟩ := hv
    refine h.kept hk (off_to fun ad e => ?_)
    simp only [Option.some.injEq] at e
    subst e
    intro hb
    have hb : b = tb := hb
    subst hb
    have h1 := h.cell 0 (List.length_pos_iff.2 h0)
    rw [cell_of_heap ht] at h1
    match o, h1 with
    | 0, h1 => exact hs _ (by simpa using h1)
    | 1, h1 => simp at h1
    | o + 2, h1 => simp at h1
/-- what the reference's Read has left, and its copy -/
structure Aft (w5 wx : World) (tb : Nat) (a1 : Option Addr) (c1 : Nat) (rx : List Nat) (sa a2 : Option Addr) (c2 : Nat) (rl : List Nat) (re : Int) : Prop where
  bel : Below w5.heap.size w5 wx
  at_ : wx.heap[tb]? = some (.cells #[.slice a2 rl.length c2, .int .i64 re] 43 (0, 0))
  y : Bs wx (.slice a1 rx.length c1) rx
  b2 : Bs wx (.slice a2 rl.length c2) rl
  cap : rl.length ≤ c2
  nil : a2 = none → c2 = 0
  src : Src sa a2
  new : w5.heap.size ≤ tb

theorem rd_next {w wr w5 wx : World} {rb sk tb : Nat} {a sa a5 a1 a2 : Option Addr} {c sc c5 c1 c2 : Nat} {l rx rl : List Nat} {err re : Int} (I : RdI w wr rb sk (sk + 1) a c sa sc l err) (R5 : RdAt w5 rb a5 c5 rl re) (K5 : Kept rb wr w5)
    (S5 : ∀ ad, a5 = some ad → ad.block < sk + 1 ∧ ad.block ≠ sk) (F : Aft w5 wx tb a1 c1 rx sa a2 c2 rl re) (hl : rl.length ≤ 200000) (q5 : w5.heap[sk]? = wr.heap[sk]?) :
    RdI w ((wx.setCell ⟨sk, 0, none⟩ (.slice a2 rl.length c2)).setCell ⟨sk, 1, none⟩ (.int .i64 re)) rb sk (sk + 1) a5 c5 a2 c2 rl re := by
  have hsk : sk < w5.heap.size := by have := I.hs; have := I.top; have := K5.size; omega
  have hqx : wx.heap[sk]? = some (.cells #[.slice sa l.length sc, .int .i64 err] 43 (0, 0)) := (F.bel.block sk hsk).trans (q5.trans I.sq)
  have hk : Kept sk wx ((wx.setCell ⟨sk, 0, none⟩ (.slice a2 rl.length c2)).setCell ⟨sk, 1, none⟩ (.int .i64 re)) := ((Kept.refl sk wx).setCell (p := ⟨sk, 0, none⟩) rfl _).setCell (p := ⟨sk, 1, none⟩) rfl _
  have hR : RdAt wx rb a5 c5 rl re := R5.below F.bel
  have hbx : Below w.heap.size w wx := (I.bel.trans (K5.below I.bel.size I.lo)).trans (F.bel.mono (by have := I.bel.size; have := K5.size; omega))
  have hrs := I.rs
  refine ⟨⟨(hk.block rb (lt_of_heap hR.at_) hrs).trans hR.at_, hR.bs.kept hk (off_to fun ad e => (S5 ad e).2), hR.cap, hR.nil, hR.off⟩, S5, set2_in hqx, F.b2.kept hk (off_to (F.src sk fun ad e => (I.sb ad e).2.2)), F.cap, F.nil, fun ad e => ⟨F.src.below (fun ad e => (I.sb ad e).1) ad e, F.src rb (fun ad e => (I.sb ad e).2.1) ad e, F.src sk (fun ad e => (I.sb ad e).2.2) ad e⟩,
    hbx.trans (hk.below hbx.size I.ls), I.lo, I.ls, I.hi, I.hs, I.rs, by have := F.bel.size; have := hk.size; omega, hl⟩

theorem rd_kept {w wr w9 : World} {rb sk g : Nat} {a sa : Option Addr} {c sc : Nat} {l : List Nat} {err : Int} (I : RdI w wr rb sk (sk + 1) a c sa sc l err) (K : Kept g wr w9) (hg : sk + 1 ≤ g) (hw : w.heap.size ≤ g) : RdI w w9 rb sk (sk + 1) a c sa sc l err := by
  have hrb := I.hi
  exact ⟨⟨(K.block rb (lt_of_heap I.rd.at_) (by omega)).trans I.rd.at_, I.rd.bs.kept K (off_to fun ad e => by have := (I.ra ad e).1; omega), I.rd.cap, I.rd.nil, I.rd.off⟩, I.ra, (K.block sk (lt_of_heap I.sq) (by omega)).trans I.sq, I.st.kept K (off_to fun ad e => by have := (I.sb ad e).1; omega), I.scl, I.sn, I.sb,
    I.bel.trans (K.below I.bel.size hw), I.lo, I.ls, I.hi, I.hs, I.rs, Nat.le_trans I.top K.size, I.len⟩
theorem rd_below {w wr w9 : World} {rb sk : Nat} {a sa : Option Addr} {c sc : Nat} {l : List Nat} {err : Int} (I : RdI w wr rb sk (sk + 1) a c sa sc l err) (K : Below wr.heap.size wr w9) : RdI w w9 rb sk (sk + 1) a c sa sc l err :=
  ⟨I.rd.below K, I.ra, (K.block sk (lt_of_heap I.sq)).trans I.sq, I.st.below K, I.scl, I.sn, I.sb, I.bel.trans (K.mono I.bel.size), I.lo, I.ls, I.hi, I.hs, I.rs, Nat.le_trans I.top K.size, I.len⟩

set_option maxRecDepth 100000 in
set_option maxHeartbeats 4000000 in
theorem reads_walk (w : World) (V : Vars w shaRound shaStart) (ba : Option Addr) (bn bc : Nat) (bl : List Nat) (hb : Bs w (.slice ba bn bc) bl) (hbc : bn ≤ bc) (hbn : ba = none → bc = 0) (v : Value) (os : List OpV) (hP : Ops w v os) :
    Calls Tryd.prog 4 #[.slice ba bn bc, v] w fun e w' => e = .returned (.bool true) ∧ Below w.heap.size w w' := by
  have HK := hid (fun (wx : World) (b : Below w.heap.size w wx) => known_dg wx (V.below b))
  have HP := hid hP
  obtain ⟨oa, oc, rfl, -⟩ := hP
  obtain ⟨n, hn⟩ : ∃ n, n = os.length := ⟨_, rfl⟩
  rw [← hn]
  have HN := hid hn
  have HB := hid hb
  have HL := hid hb.len
  have HLT := hid hb.lt
  have HNIL := hid hbn
  clear hn V hb hbn
  by_cases h1 : 200000 < bn
  · have hI : 200000 < (bn : Int) := by omega
    go_enter Tryd.func4, Tryd.ntmps4
    go_wp2_with fail
    refine (HK.out w (Below.refl _ _)).mono ?_
    rintro e w2 ⟨rfl, hb2⟩
    go_wp2
    go_ret
    exact ⟨rfl, hb2⟩
  have hI1 : ¬ 200000 < (bn : Int) := by omega
  by_cases h2 : 200 < n
  · have hI2 : 200 < (n : Int) := by omega
    go_enter Tryd.func4, Tryd.ntmps4
    go_wp2_with fail
    refine (HK.out w (Below.refl _ _)).mono ?_
    rintro e w2 ⟨rfl, hb2⟩
    go_wp2
    go_ret
    exact ⟨rfl, hb2⟩
  have hI2 : ¬ 200 < (n : Int) := by omega
  have HA := hid (hid (HB.out.alloc (.cells #[] 5)))
  obtain ⟨wo, rfl⟩ : ∃ x, x = w := ⟨_, rfl⟩
  go_enter Tryd.func4, Tryd.ntmps4
  go_wp2_with (refine wpList_cloneB (by rfl) (.tmp 25) (.tmp 26) (by rfl) wo.heap.size (by rfl) (heap_new _ _) ba bn bc bl (by rfl) HA.out.out HNIL.out (by omega) ?_
               intro a5 c5 w5 hb5 hc5 hw5 hn5 hk5 hown5)
  have HBL5 := hid (show Below wo.heap.size wo w5 from ((Below.refl _ _).alloc (Nat.le_refl _) _).trans (hk5.below (by simp) (Nat.le_refl _)))
  obtain ⟨g, hg0, hglt, hcp⟩ := cpB_of hown5 (by have := hk5.size; simp at this; omega) HLT.out
  have HCP5 := hid hcp
  have HNR := hid (NewReader2_any a5 bn c5 bl w5 hb5 hn5 (by omega))
  clear hb5 hc5 hw5 hn5 hk5 hown5 hcp HA
  refine HNR.out.mono ?_
  clear HNR
  rintro e w6 ⟨rb, ra, rc, rfl, hrb, hR6, hrbl, hra, hb6⟩
  have HR6 := hid hR6
  have HRA := hid hra
  have HBL6 := hid (HBL5.out.trans (hb6.mono HBL5.out.size))
  have HCP6 := hid (HCP5.out.same (hb6.block g hglt))
  have hz5 := HBL5.out.size
  have hz6 := hb6.size
  clear hR6 hra hb6
  go_wp2
  go_loopw [7] (fun jv wx => ∃ j : Nat, j ≤ bn ∧ jv = .int .i64 j ∧ Hid (CpB wx g c5 bn a5) ∧ Hid (Kept g w6 wx)) (fun jv _ => bn - (intOf jv).toNat)
  case atStart => exact ⟨0, by omega, rfl, HCP6, hid (Kept.refl _ _)⟩
  case round =>
    clear HCP6
    obtain ⟨j, hj, rfl, HCP, HKX⟩ := hrel
    by_cases hjn : j < bn
    · have hJ : (j : Int) < (bn : Int) := by omega
      obtain ⟨rfl, l, hl1, hl2, hbuf⟩ := HCP.out (by omega)
      have k1 := hbuf.cell j (by omega)
      have f1 := hbuf.free j
      have hx := hl2 j
      have HST := hid (fun y => hbuf.set j y (by omega))
      have HL1 := hid hl1
      have HL2 := hid hl2
      clear hl1 hl2 hbuf
      generalize l.getD j 0 = x at *
      have j3 : bits .xor .u8 (x : Int) 255 = ((x ^^^ 255 : Nat) : Int) := u8_xor_nat x 255 hx (by decide)
      have hy : x ^^^ 255 < 256 := Nat.xor_lt_two_pow (n := 8) hx (by decide)
      have HNX := hid (show CpB (wr.setCell ⟨g, j, none⟩ (.int .u8 ((x ^^^ 255 : Nat) : Int))) g c5 bn (some ⟨g, 0, none⟩) from fun _ => ⟨rfl, _, by rw [List.length_set]; exact HL1.out, set_ltB l HL2.out j _ hy, HST.out _⟩)
      have HKN := hid (HKX.out.setCell (p := ⟨g, j, none⟩) rfl (.int .u8 ((x ^^^ 255 : Nat) : Int)))
      generalize x ^^^ 255 = y at *
      go_wp2
      exact ⟨⟨j + 1, by omega, by go_num, HNX, HKN⟩, by simp [intOf]; omega⟩
    obtain rfl : j = bn := by omega
    have hJ : ¬ ((j : Int) < (j : Int)) := by omega
    have HBL7 := hid (HBL6.out.trans (HKX.out.below HBL6.out.size hg0))
    have HR7 := hid (show RdAt wr rb ra rc bl 0 from ⟨(HKX.out.block rb hrbl (by omega)).trans HR6.out.at_, HR6.out.bs.kept HKX.out (off_to fun ad e => by have := (HRA.out ad e).1; omega), HR6.out.cap, HR6.out.nil, HR6.out.off⟩)
    have hz7 := HKX.out.size
    have HA7 := hid (hid ((HB.out.below HBL7.out).alloc (.cells #[] 5)))
    clear HCP HR6 HBL6 HBL5 HCP5
    obtain ⟨wp, rfl⟩ : ∃ x, x = wr := ⟨_, rfl⟩
    go_wp2_with (refine wpList_cloneB (by rfl) (.tmp 44) (.tmp 45) (by rfl) wp.heap.size (by rfl) (heap_new _ _) ba j bc bl (by rfl) HA7.out.out HNIL.out (by omega) ?_
                 intro sa sc w8 hb8 hc8 hw8 hn8 hk8 hown8)
    have HK8 := hid (show Below wp.heap.size wp w8 from ((Below.refl _ _).alloc (Nat.le_refl _) _).trans (hk8.below (by simp) (Nat.le_refl _)))
    obtain ⟨w9, hw9⟩ : ∃ q, q = w8.alloc (.cells #[.slice sa j sc, .int .i64 0] 43) := ⟨_, rfl⟩
    obtain ⟨sk, hsk⟩ : ∃ q, q = w8.heap.size := ⟨_, rfl⟩
    have hz8 := HK8.out.size
    have hz9 : w9.heap.size = sk + 1 := by rw [hw9, hsk]; simp
    have HB9 := hid (show Below wp.heap.size wp w9 from by rw [hw9]; exact HK8.out.alloc hz8 _)
    have HI9 := hid (show RdI wo w9 rb sk (sk + 1) ra rc sa sc bl 0 from by
      have hl : bl.length = j := HL.out.symm
      refine ⟨HR7.out.below HB9.out, fun ad e => ?_, ?_, ?_, by omega, hn8, fun ad e => ?_, HBL7.out.trans (HB9.out.mono HBL7.out.size), by omega, by omega, by omega, by omega, by omega, by omega, by omega⟩
      · have h := (HRA.out ad e).2; omega
      · rw [hl, hsk, hw9]; exact heap_new _ _
      · rw [hl, hw9]; exact hb8.alloc _
      · have h := hw8 ad e; have h0 := h.1; have h1 := h.2; rw [← hsk] at h1; omega)
    clear hb8 hc8 hw8 hn8 hk8 hown8 HK8 HB9 HR7 HBL7 HRA HA7 hz5 hz6 hz7 hrb
    go_upto_region 12 with fail
    rw [← hsk, ← hw9]
    clear hsk hw9 hz8 hz9
    go_wp2
    go_loopw [9] (fun iv wr => ∃ (i : Nat) (a : Option Addr) (c : Nat) (sa : Option Addr) (sc : Nat) (l : List Nat) (err : Int), i ≤ n ∧ iv = .int .i64 i ∧ Hid (RdI wo wr rb sk (sk + 1) a c sa sc l err)) (fun iv _ => n - (intOf iv).toNat)
    case atStart => exact ⟨0, _, _, _, _, _, _, by omega, rfl, HI9⟩
    case round =>
      clear HI9
      obtain ⟨i, ra, rc, sa, sc, l, err, hi, rfl, HI⟩ := hrel
      by_cases hin : i < n
      case neg =>
        obtain rfl : i = n := by omega
        have hnn : ¬ ((i : Int) < (i : Int)) := by omega
        have hq8 := HI.out.sq
        have hsk8 : sk < wr.heap.size := lt_of_heap hq8
        have p0 : ∀ p : Cls (fun w' => Below wr.heap.size wr w'), p.w.cell? ⟨sk, 0, none⟩ = some (.slice sa l.length sc) := fun p => (p.h.cell (p := ⟨sk, 0, none⟩) hsk8).trans (by rw [cell_of_heap hq8]; rfl)
        have HREST := hid (fun (p : Cls (fun w' => Below wr.heap.size wr w')) => (Rest_any rb ra rc l err p.w (HI.out.rd.below p.h)).mono (fun e w' (h : _ ∧ _) => (⟨h.1, h.2.symm⟩ : e = _ ∧ w' = p.w)))
        have HKN := hid (fun (p : Cls (fun w' => Below wr.heap.size wr w')) => HK.out p.w (HI.out.bel.trans (p.h.mono HI.out.bel.size)))
        have hne : Nonempty (Cls fun w' => Below wr.heap.size wr w') := ⟨⟨wr, Below.refl _ _⟩⟩
        clear hq8
        generalize l.length = zl at *
        have n2 : ((zl : Int) == (zl : Int)) = true := by simp
        go_upto_region 24 with fail
        refine wp_region_class_lit (G := fun w' => Below wr.heap.size wr w') (by kernel_rfl) (by kernel_rfl) (bel_drewN (Below.refl _ _) 1) ?_
        repeat (go_big_quiet_step (first
          | (go_at_call 19; exact Calls.cls_same (HREST.out _))
          | (go_at_call 10; exact Calls.cls (HKN.out _))))
        refine wpQuiet_nil ?_
        rintro _ ⟨p, rfl⟩
        have HF := hid (HI.out.bel.trans (p.h.mono HI.out.bel.size))
        go_wp2
        go_ret
        exact ⟨rfl, HF.out⟩
      case pos => as_aux_lemma =>
        have hIn : (i : Int) < (n : Int) := by omega
        have hil : i < os.length := by rw [← HN.out]; exact hin
        obtain ⟨b, o, c', hv, e0, e1, e2, e3, hby, hx⟩ := ops_atR HP.out i hil
        simp only [Value.slice.injEq] at hv
        obtain ⟨rfl, -, -⟩ := hv
        have hlt := World.block_lt_of_cell? _ _ e0
        generalize os[i] = q at *
        obtain ⟨k, x, nn, pa, pn, pc, bs⟩ := q
        simp only at e0 e1 e2 e3 hby hx
        have HBEL := hid HI.out.bel
        have HC := hid (show ∀ wx, Below wo.heap.size wo wx → wx.cell? ⟨b, o + i * 4, none⟩ = some (.int .i64 k) ∧ wx.cell? ⟨b, o + i * 4 + 1, none⟩ = some (.int .u64 (x : Int)) ∧ wx.cell? ⟨b, o + i * 4 + 2, none⟩ = some (.int .i64 nn) ∧ wx.cell? ⟨b, o + i * 4 + 3, none⟩ = some (.slice pa pn pc) from fun wx h => ⟨(h.cell (p := ⟨b, o + i * 4, none⟩) hlt).trans e0, (h.cell (p := ⟨b, o + i * 4 + 1, none⟩) hlt).trans e1, (h.cell (p := ⟨b, o + i * 4 + 2, none⟩) hlt).trans e2, (h.cell (p := ⟨b, o + i * 4 + 3, none⟩) hlt).trans e3⟩)
        obtain ⟨d0, d1, d2, d3⟩ := HC.out wr HI.out.bel
        have HQ := hid (read2_any rb x pn pc rc k nn err pa ra l wr HI.out.rd (by have := HI.out.len; omega))
        clear e0 e1 e2 e3 hby hlt
        go_wp2_with fail
        refine HQ.out.mono ?_
        clear HQ
        rintro e w5 ⟨u, rfl, ao, co, rfl, hco, hnil, hfar, hbo, ⟨a5, c5, hR5, hK5, hS5⟩, hown⟩
        have HB5 := hid (HI.out.bel.trans (hK5.below HI.out.bel.size HI.out.lo))
        have hq5 : w5.heap[sk]? = _ := (hK5.block sk (Nat.lt_of_lt_of_le HI.out.hs HI.out.top) (fun h => HI.out.rs h.symm)).trans HI.out.sq
        have HST := hid (show Bs w5 (.slice sa l.length sc) l from HI.out.st.kept hK5 (off_to fun ad e => (HI.out.sb ad e).2.1))
        have HRQ := hid (fun wy (hb : Below w5.heap.size w5 wy) => rread_any k x nn err sa pa sc pn pc l wy (HST.out.below hb) HI.out.scl HI.out.sn (by have := HI.out.len; omega))
        have HLN := hid (Nat.le_trans (rop_len l err k nn) HI.out.len)
        have HLX := hid (Nat.le_trans (rop_xlen l err k nn) HI.out.len)
        have HA5 := hid (And.intro (fun ad (e : a5 = some ad) => (And.intro (hS5.below (fun ad e => (HI.out.ra ad e).1) ad e) (hS5 sk (fun ad e => (HI.out.ra ad e).2) ad e) : ad.block < sk + 1 ∧ ad.block ≠ sk)) (show ∀ ad, ao = some ad → wr.heap.size ≤ ad.block from hfar))
        obtain ⟨ln, hln⟩ : ∃ q, q = l.length := ⟨_, rfl⟩
        rw [← hln] at hq5 HRQ HST
        have HSL := hid HI.out.scl
        generalize rop l err k nn = r at *
        obtain ⟨rv, rx, rl, re⟩ := r
        simp only at hbo hco hR5 hown HLN HLX hS5
        obtain ⟨m, hm⟩ : ∃ q, q = rx.length := ⟨_, rfl⟩
        rw [← hm] at hbo hco hown
        have HBO := hid hbo
        have HR5 := hid hR5
        have HOW := hid hown
        have HM := hid hm
        have q0 : w5.cell? ⟨sk, 0, none⟩ = some (.slice sa ln sc) := by rw [cell_of_heap hq5]; rfl
        have q1 : w5.cell? ⟨sk, 1, none⟩ = some (.int .i64 err) := by rw [cell_of_heap hq5]; rfl
        have HQ5 := hid hq5
        have HQ55 := hid (hK5.block sk (Nat.lt_of_lt_of_le HI.out.hs HI.out.top) (fun h => HI.out.rs h.symm))
        have HK5 := hid hK5
        have hskl : sk < w5.heap.size := lt_of_heap hq5
        obtain ⟨d0, d1, d2, d3⟩ := HC.out w5 HB5.out
        have HKP := hid (show ∀ wx, Below w5.heap.size w5 wx → wx.cell? ⟨sk, 0, none⟩ = some (.slice sa ln sc) ∧ wx.cell? ⟨sk, 1, none⟩ = some (.int .i64 err) ∧ wx.cell? ⟨b, o + i * 4, none⟩ = some (.int .i64 k) ∧ wx.cell? ⟨b, o + i * 4 + 1, none⟩ = some (.int .u64 (x : Int)) ∧ wx.cell? ⟨b, o + i * 4 + 2, none⟩ = some (.int .i64 nn) ∧ wx.cell? ⟨b, o + i * 4 + 3, none⟩ = some (.slice pa pn pc) from fun wx h => ⟨(h.cell (p := ⟨sk, 0, none⟩) hskl).trans q0, (h.cell (p := ⟨sk, 1, none⟩) hskl).trans q1, HC.out wx (HB5.out.trans (h.mono HB5.out.size))⟩)
        unfold inV at HRQ
        clear hq5 hR5 hK5 hS5 hbo hown hm hln
        go_upto_region 16 with fail
        go_cut [12, 13, 14] (fun wv yv tv wx => wv = .int .u64 ((rv : Nat) : Int) ∧ ∃ wy, wy = wx ∧ ∃ a1 c1 a2 c2 tb, yv = .slice a1 rx.length c1 ∧ tv = .pointer (some ⟨tb, 0, none⟩) ∧ Hid (Aft w5 wy tb a1 c1 rx sa a2 c2 rl re))
        case first =>
          go_region_held3 (fun wx => wx.cell? ⟨sk, 0, none⟩ = some (.slice sa ln sc) ∧ wx.cell? ⟨sk, 1, none⟩ = some (.int .i64 err) ∧ wx.cell? ⟨b, o + i * 4, none⟩ = some (.int .i64 k) ∧ wx.cell? ⟨b, o + i * 4 + 1, none⟩ = some (.int .u64 (x : Int)) ∧ wx.cell? ⟨b, o + i * 4 + 2, none⟩ = some (.int .i64 nn) ∧ wx.cell? ⟨b, o + i * 4 + 3, none⟩ = some (.slice pa pn pc))
            (first | exact HKP.out _ (Below.refl _ _) | exact HKP.out _ (bel_drewN (Below.refl _ _) 1) | exact HKP.out _ (bel_drewN ((Below.refl _ _).alloc (Nat.le_refl _) _) 1) | exact HKP.out _ hbA | exact HKP.out _ (hbA.alloc hbA.size _) | exact HKP.out _ ((hbA.setCell (p := ⟨w5.heap.size, 0, none⟩) (Nat.le_refl _) _).setCell (p := ⟨w5.heap.size, 1, none⟩) (Nat.le_refl _) _) | go_keep)
            (first
              | (go_at_call 18; refine (HRQ.out _ (bel_drewN ((Below.refl _ _).alloc (Nat.le_refl _) _) 1)).mono ?_; rintro e wA ⟨a1, c1, _, rfl, hb1, a2, c2, rfl, hb2, hc2, hn2, hbA0, hs2⟩
                 have hbA : Below w5.heap.size w5 wA := (bel_drewN ((Below.refl _ _).alloc (Nat.le_refl _) _) 1).trans (hbA0.mono (by simp))
                 have hnb : wA.heap[w5.heap.size]? = some (.cells #[.slice none 0 0, .int .i64 0] 43 (0, 0)) := (hbA0.block _ (by simp)).trans (heap_new w5 _)
                 have y0 : wA.cell? ⟨w5.heap.size, 0, none⟩ = some (.slice none 0 0) := by rw [cell_of_heap hnb]; rfl
                 have y1 : wA.cell? ⟨w5.heap.size, 1, none⟩ = some (.int .i64 0) := by rw [cell_of_heap hnb]; rfl
                 have y2 := free_of_heap hnb 0
                 have y3 := free_of_heap hnb 1)
              | (go_at_call 18; refine (HRQ.out _ (bel_drewN (Below.refl _ _) 1)).mono ?_; rintro e wA ⟨a1, c1, _, rfl, hb1, a2, c2, rfl, hb2, hc2, hn2, hbA0, hs2⟩
                 have hbA : Below w5.heap.size w5 wA := (bel_drewN (Below.refl _ _) 1).trans hbA0))
          all_goals first
            | (have hnb2 := hnb
               have LV := hid (show Aft w5 ((wA.setCell ⟨w5.heap.size, 0, none⟩ (.slice a2 rl.length c2)).setCell ⟨w5.heap.size, 1, none⟩ (.int .i64 re)) w5.heap.size a1 c1 rx sa a2 c2 rl re from ⟨(hbA.setCell (p := ⟨w5.heap.size, 0, none⟩) (Nat.le_refl _) _).setCell (p := ⟨w5.heap.size, 1, none⟩) (Nat.le_refl _) _, set2_in hnb, hb1.set_in (fun z h => by cases h) hnb _ _, hb2.set_in (fun z h => by cases h) hnb _ _, hc2, hn2, hs2, Nat.le_refl _⟩))
            | (have LV := hid (show Aft w5 (wA.alloc (.cells #[.slice a2 rl.length c2, .int .i64 re] 43)) wA.heap.size a1 c1 rx sa a2 c2 rl re from ⟨hbA.alloc hbA.size _, heap_new _ _, hb1.alloc _, hb2.alloc _, hc2, hn2, hs2, hbA.size⟩))
          all_goals
            go_wp2_with fail
            go_meet
            exact ⟨rfl, _, rfl, _, _, _, _, _, rfl, rfl, LV⟩
        case rest =>
          obtain ⟨rfl, wx, hwx, a1, c1, a2, c2, tb, rfl, rfl, HAF⟩ := hcut
          subst hwx
          as_aux_lemma =>
          have hqx := (HAF.out.bel.block sk hskl).trans HQ5.out
          have x0 := (HAF.out.bel.cell (p := ⟨sk, 0, none⟩) hskl).trans q0
          have x1 := (HAF.out.bel.cell (p := ⟨sk, 1, none⟩) hskl).trans q1
          have x2 := free_of_heap hqx 0
          have x3 := free_of_heap hqx 1
          have t0 : wx.cell? ⟨tb, 0, none⟩ = some (.slice a2 rl.length c2) := by rw [cell_of_heap HAF.out.at_]; rfl
          have t1 : wx.cell? ⟨tb, 1, none⟩ = some (.int .i64 re) := by rw [cell_of_heap HAF.out.at_]; rfl
          have HQX := hid hqx
          clear hqx q0 q1 d0 d1 d2 d3
          go_upto_region 18 with fail
          obtain ⟨w8, hw8⟩ : ∃ q, q = (wx.setCell ⟨sk, 0, none⟩ (.slice a2 rl.length c2)).setCell ⟨sk, 1, none⟩ (.int .i64 re) := ⟨_, rfl⟩
          have HI8 := hid (show RdI wo w8 rb sk (sk + 1) a5 c5 a2 c2 rl re from by rw [hw8]; exact rd_next HI.out HR5.out HK5.out HA5.out.1 HAF.out HLN.out HQ55.out)
          have hk8 : Kept sk wx w8 := by rw [hw8]; exact ((Kept.refl sk wx).setCell (p := ⟨sk, 0, none⟩) rfl _).setCell (p := ⟨sk, 1, none⟩) rfl _
          have hskr : sk < wr.heap.size := by have := HI.out.hs; have := HI.out.top; omega
          have HBX := hid (show Bs w8 (.slice ao rx.length co) rx from by rw [← HM.out]; exact (HBO.out.below HAF.out.bel).kept hk8 (off_to fun ad e => by have := HA5.out.2 ad e; omega))
          have HBY := hid (show Bs w8 (.slice a1 rx.length c1) rx from by rw [hw8]; exact HAF.out.y.set_in (fun z h => by cases h) HQX.out _ _)
          have HOX := hid (show w8.ownsRow wr.heap.size 5 1 (.slice ao rx.length co) rx.length (u8s rx) from by rw [← HM.out]; exact owns_keptR (owns_belowR HOW.out HAF.out.bel) hk8 hskr)
          rw [← hw8]
          have hwr8 : wr.heap.size < w8.heap.size := by have h1 := HK5.out.size; have h2 := lt_of_heap HAF.out.at_; have h3 := hk8.size; have h4 := HAF.out.new; omega
          have HWR8 := hid hwr8
          have HWR := hid HI.out.bel.size
          clear hw8 hk8 t0 t1 x0 x1 x2 x3 HQX HAF HRQ HKP HBO HOW HR5 HK5 HQ5 HQ55 HST HSL hwr8
          have hcx := fun (p : Cls (fun w' => Below w8.heap.size w8 w')) => conv_bs (HBX.out.below p.h)
          have hcy := fun (p : Cls (fun w' => Below w8.heap.size w8 w')) => conv_bs (HBY.out.below p.h)
          have hq8 := HI8.out.sq
          have hsk8 : sk < w8.heap.size := lt_of_heap hq8
          have p0 : ∀ p : Cls (fun w' => Below w8.heap.size w8 w'), p.w.cell? ⟨sk, 0, none⟩ = some (.slice a2 rl.length c2) := fun p => (p.h.cell (p := ⟨sk, 0, none⟩) hsk8).trans (by rw [cell_of_heap hq8]; rfl)
          have p1 : ∀ p : Cls (fun w' => Below w8.heap.size w8 w'), p.w.cell? ⟨sk, 1, none⟩ = some (.int .i64 re) := fun p => (p.h.cell (p := ⟨sk, 1, none⟩) hsk8).trans (by rw [cell_of_heap hq8]; rfl)
          have HREST := hid (fun (p : Cls (fun w' => Below w8.heap.size w8 w')) => (Rest_any rb a5 c5 rl re p.w (HI8.out.rd.below p.h)).mono (fun e w' (h : _ ∧ _) => (⟨h.1, h.2.symm⟩ : e = _ ∧ w' = p.w)))
          have HERR := hid (fun (p : Cls (fun w' => Below w8.heap.size w8 w')) => (Err_any rb a5 c5 rl re p.w (HI8.out.rd.below p.h)).mono (fun e w' (h : _ ∧ _) => (⟨h.1, h.2.symm⟩ : e = _ ∧ w' = p.w)))
          have HEND := hid (fun (p : Cls (fun w' => Below w8.heap.size w8 w')) => (rEnd_any rb a5 c5 rl re p.w (HI8.out.rd.below p.h)).mono (fun e w' (h : _ ∧ _) => (⟨h.1, h.2.symm⟩ : e = _ ∧ w' = p.w)))
          have HREN := hid (fun (p : Cls (fun w' => Below w8.heap.size w8 w')) => end_any a2 rl.length c2 re p.w)
          unfold inV at HREN
          have hne : Nonempty (Cls fun w' => Below w8.heap.size w8 w') := ⟨⟨w8, Below.refl _ _⟩⟩
          obtain ⟨xl, hxl⟩ : ∃ q, q = rx.length := ⟨_, rfl⟩
          rw [← hxl] at hcx hcy HOX ⊢
          have HXL := hid hxl
          have hxl2 : xl ≤ 200000 := by rw [hxl]; exact HLX.out
          clear hxl hq8
          generalize bstr rx = SX at *
          generalize rl.length = zl at *
          generalize (if re = 0 ∧ 0 < zl then (5 : Int) else re) = ev at *
          have n1 : ((rv : Int) != (rv : Int)) = false := by simp
          have n2 : ((zl : Int) != (zl : Int)) = false := by simp
          have n3 : (re != re) = false := by simp
          have n4 : (ev != ev) = false := by simp
          refine wp_region_class_lit (G := fun w' => Below w8.heap.size w8 w') (by kernel_rfl) (by kernel_rfl) (bel_drewN (Below.refl _ _) 1) ?_
          repeat (go_big_quiet_step (first
            | (go_at_call 19; exact Calls.cls_same (HREST.out _))
            | (go_at_call 20; exact Calls.cls_same (HERR.out _))
            | (go_at_call 21; exact Calls.cls_same (HEND.out _))
            | (go_at_call 22; exact Calls.cls (HREN.out _))))
          refine wpQuiet_nil ?_
          rintro _ ⟨p, rfl⟩
          have HI9 := hid (rd_below HI8.out p.h)
          have HOX9 := hid (owns_belowR HOX.out p.h)
          have hsz := p.h.size
          have hw8 := HWR8.out
          have hwr := HWR.out
          have htop := HI.out.top
          clear hcx hcy p0 p1 HREST HERR HEND HREN
          generalize p.w = wz at *
          obtain ⟨g2, hg2, hg2l, hcp2⟩ := cpB_of HOX9.out (by omega) HBX.out.lt
          have HCP2 := hid hcp2
          as_aux_lemma =>
          clear hcp2 HBY HI8 HOX HOX9
          go_wp2
          go_loopw [15] (fun jv wx => ∃ j2 : Nat, j2 ≤ xl ∧ jv = .int .i64 j2 ∧ Hid (CpB wx g2 co xl ao) ∧ Hid (Kept g2 wz wx)) (fun jv _ => xl - (intOf jv).toNat)
          case atStart => exact ⟨0, by omega, rfl, HCP2, hid (Kept.refl _ _)⟩
          case round =>
            clear HCP2
            obtain ⟨j2, hj2, rfl, HCP, HKX⟩ := hrel
            by_cases hjx : j2 < xl
            · have hJ2 : (j2 : Int) < (xl : Int) := by omega
              obtain ⟨rfl, l9, hl1, hl2, hbuf⟩ := HCP.out (by omega)
              have k1 := hbuf.cell j2 (by omega)
              have f1 := hbuf.free j2
              have hx9 := hl2 j2
              have HST := hid (fun y => hbuf.set j2 y (by omega))
              have HL1 := hid hl1
              have HL2 := hid hl2
              clear hl1 hl2 hbuf
              generalize l9.getD j2 0 = x9 at *
              have j3 : bits .xor .u8 (x9 : Int) 255 = ((x9 ^^^ 255 : Nat) : Int) := u8_xor_nat x9 255 hx9 (by decide)
              have hy9 : x9 ^^^ 255 < 256 := Nat.xor_lt_two_pow (n := 8) hx9 (by decide)
              have HNX := hid (show CpB (wr.setCell ⟨g2, j2, none⟩ (.int .u8 ((x9 ^^^ 255 : Nat) : Int))) g2 co xl (some ⟨g2, 0, none⟩) from fun _ => ⟨rfl, _, by rw [List.length_set]; exact HL1.out, set_ltB l9 HL2.out j2 _ hy9, HST.out _⟩)
              have HKN := hid (HKX.out.setCell (p := ⟨g2, j2, none⟩) rfl (.int .u8 ((x9 ^^^ 255 : Nat) : Int)))
              generalize x9 ^^^ 255 = y9 at *
              go_wp2
              exact ⟨⟨j2 + 1, by omega, by go_num, HNX, HKN⟩, by simp [intOf]; omega⟩
            obtain rfl : j2 = xl := by omega
            have hJ2 : ¬ ((j2 : Int) < (j2 : Int)) := by omega
            have HIN := hid (rd_kept HI9.out HKX.out (by omega) (by omega))
            go_wp2
            exact ⟨⟨i + 1, _, _, _, _, _, _, by omega, by go_num, HIN⟩, by simp [intOf]; omega⟩
end Go.Proofs.YtdjnjmekdjcbaaaDoor
