/-
  Reader: U8, U16, U32, U64, Raw, Text, End; a call of a Reader's method by its kind.
-/
import Derived.Test.YtdjnjmekdjcbaaaDoorRdr
import Derived.Test.YtdjnjmekdjcbaaaDoorOpWr
namespace Go.Proofs.YtdjnjmekdjcbaaaDoor
open Go Go.RowKit
set_option linter.unusedVariables false

/-- the number that a Reader reads of n bytes -/
def rnum (l : List Nat) (err n : Int) : Nat := beV (rtake l err n).1 (rtake l err n).1.length
theorem rtake_len (l : List Nat) (err : Int) (n : Nat) : (rtake l err n).1.length ≤ n := by
  unfold rtake
  split
  · simp
  · split
    · simp
    · split
      · simp
      · simp only [List.length_take, Int.toNat_natCast]; omega
theorem rtake_lt (l : List Nat) (err n : Int) (hl : ∀ i, l.getD i 0 < 256) : ∀ i, (rtake l err n).1.getD i 0 < 256 := fun i => by
  unfold rtake
  split
  · simp
  · split
    · simp
    · split
      · simp
      · simp only
        rw [List.getD_eq_getElem?_getD, List.getElem?_take]
        split
        · rw [← List.getD_eq_getElem?_getD]; exact hl i
        · decide
theorem rnum_lt (l : List Nat) (err : Int) (n : Nat) (hl : ∀ i, l.getD i 0 < 256) : rnum l err n < 256 ^ n :=
  Nat.lt_of_lt_of_le (beV_lt _ (rtake_lt l err n hl) _) (Nat.pow_le_pow_right (by decide) (rtake_len l err n))
/-- what a Reader is behind a call -/
def RdTo (w : World) (rb : Nat) (a : Option Addr) (r : List Nat × Int) (w' : World) : Prop := ∃ a' c', RdAt w' rb a' c' r.1 r.2 ∧ Kept rb w w' ∧ Src a a'
theorem RdAt.below {w w' : World} {rb : Nat} {a : Option Addr} {c : Nat} {l : List Nat} {err : Int} (R : RdAt w rb a c l err) (h : Below w.heap.size w w') : RdAt w' rb a c l err :=
  ⟨(h.block _ (lt_of_heap R.at_)).trans R.at_, R.bs.below h, R.cap, R.nil, R.off⟩

set_option maxRecDepth 100000 in
theorem rU8 (rb : Nat) (a : Option Addr) (c : Nat) (l : List Nat) (err : Int) (w : World) (R : RdAt w rb a c l err) :
    Calls Tryd.prog 52 #[.pointer (some ⟨rb, 0, none⟩)] w fun e w' => e = .returned (.int .u8 ((rnum l err 1 : Nat) : Int)) ∧ RdTo w rb a (rtake l err 1).2 w' := by
  have HN := hid (show Calls Tryd.prog 73 #[.pointer (some ⟨rb, 0, none⟩), .int .i64 1] w (fun e w' => e = .returned (.int .u64 ((rnum l err 1 : Nat) : Int)) ∧ RdTo w rb a (rtake l err 1).2 w') from
    (number_rd rb a c l err 1 w R (by omega)).mono fun e w' h => by obtain ⟨a', c', h1, h2, h3, h4⟩ := h; exact ⟨h1, a', c', h2, h3, h4⟩)
  have hlt : rnum l err 1 < 256 := rnum_lt l err 1 R.bs.lt
  clear R
  generalize (rtake l err 1).2 = t at *
  generalize rnum l err 1 = x at *
  have h0 : IntKind.u8.wrap (x : Int) = (x : Int) := by rw [IntKind.wrap_u8]; omega
  clear hlt
  go_enter Tryd.func52, Tryd.ntmps52
  go_wp2_with fail
  refine HN.out.mono ?_
  rintro e w2 ⟨rfl, hZ⟩
  go_wp2
  go_ret
  exact ⟨rfl, hZ⟩
set_option maxRecDepth 100000 in
theorem rU16 (rb : Nat) (a : Option Addr) (c : Nat) (l : List Nat) (err : Int) (w : World) (R : RdAt w rb a c l err) :
    Calls Tryd.prog 53 #[.pointer (some ⟨rb, 0, none⟩)] w fun e w' => e = .returned (.int .u16 ((rnum l err 2 : Nat) : Int)) ∧ RdTo w rb a (rtake l err 2).2 w' := by
  have HN := hid (show Calls Tryd.prog 73 #[.pointer (some ⟨rb, 0, none⟩), .int .i64 2] w (fun e w' => e = .returned (.int .u64 ((rnum l err 2 : Nat) : Int)) ∧ RdTo w rb a (rtake l err 2).2 w') from
    (number_rd rb a c l err 2 w R (by omega)).mono fun e w' h => by obtain ⟨a', c', h1, h2, h3, h4⟩ := h; exact ⟨h1, a', c', h2, h3, h4⟩)
  have hlt : rnum l err 2 < 65536 := rnum_lt l err 2 R.bs.lt
  clear R
  generalize (rtake l err 2).2 = t at *
  generalize rnum l err 2 = x at *
  have h0 : IntKind.u16.wrap (x : Int) = (x : Int) := by rw [IntKind.wrap_u16]; omega
  clear hlt
  go_enter Tryd.func53, Tryd.ntmps53
  go_wp2_with fail
  refine HN.out.mono ?_
  rintro e w2 ⟨rfl, hZ⟩
  go_wp2
  go_ret
  exact ⟨rfl, hZ⟩
set_option maxRecDepth 100000 in
theorem rU32 (rb : Nat) (a : Option Addr) (c : Nat) (l : List Nat) (err : Int) (w : World) (R : RdAt w rb a c l err) :
    Calls Tryd.prog 54 #[.pointer (some ⟨rb, 0, none⟩)] w fun e w' => e = .returned (.int .u32 ((rnum l err 4 : Nat) : Int)) ∧ RdTo w rb a (rtake l err 4).2 w' := by
  have HN := hid (show Calls Tryd.prog 73 #[.pointer (some ⟨rb, 0, none⟩), .int .i64 4] w (fun e w' => e = .returned (.int .u64 ((rnum l err 4 : Nat) : Int)) ∧ RdTo w rb a (rtake l err 4).2 w') from
    (number_rd rb a c l err 4 w R (by omega)).mono fun e w' h => by obtain ⟨a', c', h1, h2, h3, h4⟩ := h; exact ⟨h1, a', c', h2, h3, h4⟩)
  have hlt : rnum l err 4 < 4294967296 := rnum_lt l err 4 R.bs.lt
  clear R
  generalize (rtake l err 4).2 = t at *
  generalize rnum l err 4 = x at *
  have h0 : IntKind.u32.wrap (x : Int) = (x : Int) := by rw [IntKind.wrap_u32]; omega
  clear hlt
  go_enter Tryd.func54, Tryd.ntmps54
  go_wp2_with fail
  refine HN.out.mono ?_
  rintro e w2 ⟨rfl, hZ⟩
  go_wp2
  go_ret
  exact ⟨rfl, hZ⟩
set_option maxRecDepth 100000 in
theorem rU64 (rb : Nat) (a : Option Addr) (c : Nat) (l : List Nat) (err : Int) (w : World) (R : RdAt w rb a c l err) :
    Calls Tryd.prog 55 #[.pointer (some ⟨rb, 0, none⟩)] w fun e w' => e = .returned (.int .u64 ((rnum l err 8 : Nat) : Int)) ∧ RdTo w rb a (rtake l err 8).2 w' := by
  have HN := hid (show Calls Tryd.prog 73 #[.pointer (some ⟨rb, 0, none⟩), .int .i64 8] w (fun e w' => e = .returned (.int .u64 ((rnum l err 8 : Nat) : Int)) ∧ RdTo w rb a (rtake l err 8).2 w') from
    (number_rd rb a c l err 8 w R (by omega)).mono fun e w' h => by obtain ⟨a', c', h1, h2, h3, h4⟩ := h; exact ⟨h1, a', c', h2, h3, h4⟩)
  clear R
  generalize (rtake l err 8).2 = t at *
  generalize rnum l err 8 = x at *
  go_enter Tryd.func55, Tryd.ntmps55
  go_wp2_with fail
  refine HN.out.mono ?_
  rintro e w2 ⟨rfl, hZ⟩
  go_wp2
  go_ret
  exact ⟨rfl, hZ⟩
/-- the bytes that a call reads, in memory of their own, and the Reader behind it -/
def RawTo (w : World) (rb : Nat) (a : Option Addr) (r : List Nat × List Nat × Int) (e : Value) (w' : World) : Prop :=
  ∃ ao co, e = .slice ao r.1.length co ∧ r.1.length ≤ co ∧ (ao = none → co = 0) ∧ (∀ ad, ao = some ad → w.heap.size ≤ ad.block) ∧ Bs w' (.slice ao r.1.length co) r.1 ∧ RdTo w rb a r.2 w'
set_option maxRecDepth 100000 in
theorem rRaw (rb : Nat) (a : Option Addr) (c : Nat) (l : List Nat) (err n : Int) (w : World) (R : RdAt w rb a c l err) (hl : l.length ≤ 100000000000) :
    Calls Tryd.prog 56 #[.pointer (some ⟨rb, 0, none⟩), .int .i64 n] w fun e w' => ∃ u, e = .returned u ∧ RawTo w rb a (rtake l err n) u w' := by
  have HN := hid (show Calls Tryd.prog 74 #[.pointer (some ⟨rb, 0, none⟩), .int .i64 n] w (fun e w' => ∃ ao co a' c', e = .returned (.slice ao (rtake l err n).1.length co) ∧ Bs w' (.slice ao (rtake l err n).1.length co) (rtake l err n).1 ∧ (rtake l err n).1.length ≤ co ∧ (ao = none → co = 0) ∧
      RdAt w' rb a' c' (rtake l err n).2.1 (rtake l err n).2.2 ∧ Kept rb w w' ∧ Src a a') from (take_any rb a c l err n w R).mono fun e w' h => by
        obtain ⟨ao, co, a', c', h1, h2, h3, h4, _, h5, h6, h7⟩ := h
        exact ⟨ao, co, a', c', h1, h2, h3, h4, h5, h6, h7⟩)
  have hle : (rtake l err n).1.length ≤ l.length := by
    unfold rtake
    split
    · simp
    · split
      · simp
      · split
        · simp
        · simp only [List.length_take]; omega
  clear R
  generalize rtake l err n = r at *
  obtain ⟨r1, r2, r3⟩ := r
  simp only at HN hle ⊢
  obtain ⟨m, hm⟩ : ∃ m, m = r1.length := ⟨_, rfl⟩
  rw [← hm] at HN hle
  have HM := hid hm
  clear hm
  go_enter Tryd.func56, Tryd.ntmps56
  go_wp2_with fail
  refine HN.out.mono ?_
  clear HN
  rintro e w2 ⟨ao, co, a', c', rfl, hb, hco, hnil, hR, hK, hSR⟩
  have HR := hid hR
  have HK := hid hK
  have HC := hid (Clone_any ao m co r1 w2 hb hnil (by omega))
  clear hb hnil hR hK
  go_wp2_with fail
  refine HC.out.mono ?_
  clear HC
  rintro e w3 ⟨u, rfl, au, cu, rfl, hcu, hbu, hnu, hfu, hbel⟩
  have HZ := hid (show RawTo w rb a (r1, r2, r3) (.slice au m cu) w3 from by
    rw [HM.out] at hcu hbu ⊢
    exact ⟨au, cu, rfl, hcu, hnu, fun ad e => Nat.le_trans HK.out.size (hfu ad e).1, hbu, a', c', HR.out.below hbel, HK.out.trans (Kept.of_below hbel), hSR⟩)
  clear hcu hbu hnu hfu hbel HR HK
  go_wp2
  go_ret
  exact ⟨_, rfl, HZ.out⟩

/-- what Text reads -/
def rtext (l : List Nat) (err : Int) : List Nat × List Nat × Int :=
  let t := rtake l err 2
  let t2 := rtake t.2.1 t.2.2 ((rnum l err 2 : Nat) : Int)
  if t2.2.2 ≠ 0 then (t2.1, l, t2.2.2) else t2
set_option maxRecDepth 100000 in
set_option maxHeartbeats 1000000 in
theorem rText (rb : Nat) (a : Option Addr) (c : Nat) (l : List Nat) (err : Int) (w : World) (R : RdAt w rb a c l err) (hl : l.length ≤ 100000000000) :
    Calls Tryd.prog 57 #[.pointer (some ⟨rb, 0, none⟩)] w fun e w' => ∃ u, e = .returned u ∧ RawTo w rb a (rtext l err) u w' := by
  have HN := hid (rU16 rb a c l err w R)
  obtain ⟨c0, c1⟩ := R.c
  have HR0 := hid R
  have hlt : rnum l err 2 < 65536 := rnum_lt l err 2 R.bs.lt
  have h0 : IntKind.i64.wrap ((rnum l err 2 : Nat) : Int) = ((rnum l err 2 : Nat) : Int) := by rw [IntKind.wrap_i64]; omega
  have HT := hid (show rtext l err = (if (rtake (rtake l err 2).2.1 (rtake l err 2).2.2 ((rnum l err 2 : Nat) : Int)).2.2 ≠ 0 then ((rtake (rtake l err 2).2.1 (rtake l err 2).2.2 ((rnum l err 2 : Nat) : Int)).1, l, (rtake (rtake l err 2).2.1 (rtake l err 2).2.2 ((rnum l err 2 : Nat) : Int)).2.2) else rtake (rtake l err 2).2.1 (rtake l err 2).2.2 ((rnum l err 2 : Nat) : Int)) from rfl)
  have HL2 := hid (show (rtake l err 2).2.1.length ≤ 100000000000 from by
    refine Nat.le_trans ?_ hl
    unfold rtake
    split
    · simp
    · split
      · simp
      · split
        · simp
        · simp only [List.length_drop]; omega)
  obtain ⟨ll, hll⟩ : ∃ x, x = l.length := ⟨_, rfl⟩
  rw [← hll] at c0
  have HLL := hid hll
  clear R hlt hll
  go_enter Tryd.func57, Tryd.ntmps57
  go_wp2_with fail
  refine HN.out.mono ?_
  clear HN
  rintro e w2 ⟨rfl, a2, c2, hR2, hK2, hS2⟩
  have HK2 := hid hK2
  generalize rnum l err 2 = x at *
  generalize rtake l err 2 = t at *
  have HQ := hid (rRaw rb a2 c2 t.2.1 t.2.2 (x : Int) w2 hR2 HL2.out)
  clear hR2 hK2 c0 c1
  go_wp2_with fail
  refine HQ.out.mono ?_
  clear HQ
  rintro e w3 ⟨u, rfl, au, cu, rfl, hcu, hnu, hfu, hbu, a3, c3, hR3, hK3, hS3⟩
  generalize rtake t.2.1 t.2.2 (x : Int) = t2 at *
  obtain ⟨d0, d1⟩ := hR3.c
  have f0 := free_of_heap hR3.at_ 0
  have HR3 := hid hR3
  have HK3 := hid (HK2.out.trans hK3)
  have HF := hid (show ∀ ad, au = some ad → w.heap.size ≤ ad.block from fun ad e => Nat.le_trans HK2.out.size (hfu ad e))
  have HBU := hid hbu
  have HNU := hid hnu
  have hrbl : rb < w.heap.size := lt_of_heap HR0.out.at_
  clear hR3 hK3 hfu hbu hnu
  by_cases he : t2.2.2 = 0
  · have hE : (t2.2.2 != 0) = false := by rw [he]; rfl
    have HT2 := hid (show rtext l err = t2 from by rw [HT.out, if_neg (by rw [he]; simp)])
    clear HT he
    go_wp2
    go_ret
    refine ⟨_, rfl, ?_⟩
    rw [HT2.out]
    exact ⟨au, cu, rfl, hcu, HNU.out, HF.out, HBU.out, a3, c3, HR3.out, HK3.out, hS2.trans hS3⟩
  · have hE : (t2.2.2 != 0) = true := by rw [bne_iff_ne]; exact he
    have HT2 := hid (show rtext l err = (t2.1, l, t2.2.2) from by rw [HT.out, if_pos he])
    clear HT he
    go_wp2
    go_ret
    refine ⟨_, rfl, ?_⟩
    rw [HT2.out]
    have hk : Kept rb w3 (w3.setCell ⟨rb, 0, none⟩ (.slice a ll c)) := (Kept.refl rb w3).setCell (p := ⟨rb, 0, none⟩) rfl _
    have hoffu : Off rb (.slice au t2.1.length cu) := off_to (fun ad e => by have := HF.out ad e; omega)
    refine ⟨au, cu, rfl, hcu, HNU.out, HF.out, HBU.out.kept hk hoffu, a, c, ⟨?_, ?_, HR0.out.cap, HR0.out.nil, HR0.out.off⟩, HK3.out.trans hk, Src.refl _⟩
    · have h := heap_setCell_same w3 rb 0 _ _ (.slice a ll c) HR3.out.at_
      rw [HLL.out] at h
      simpa [HLL.out] using h
    · exact (HR0.out.bs.kept HK3.out (off_to HR0.out.off)).kept hk (off_to HR0.out.off)

set_option maxRecDepth 100000 in
theorem rEnd (rb : Nat) (a : Option Addr) (c : Nat) (w : World) (R : RdAt w rb a c [] 0) :
    Calls Tryd.prog 21 #[.pointer (some ⟨rb, 0, none⟩)] w fun e w' => e = .returned (.int .i64 0) ∧ w = w' := by
  have H1 := hid (Err_any rb a c [] 0 w R)
  have H2 := hid (Rest_any rb a c [] 0 w R)
  clear R
  go_enter Tryd.func21, Tryd.ntmps21
  go_wp2_with fail
  refine H1.out.mono ?_
  rintro e w2 ⟨rfl, rfl⟩
  go_wp2_with fail
  refine H2.out.mono ?_
  rintro e w2 ⟨rfl, rfl⟩
  go_wp2_with fail
  refine H1.out.mono ?_
  rintro e w2 ⟨rfl, rfl⟩
  go_wp2
  go_ret
  exact ⟨rfl, rfl⟩
end Go.Proofs.YtdjnjmekdjcbaaaDoor
