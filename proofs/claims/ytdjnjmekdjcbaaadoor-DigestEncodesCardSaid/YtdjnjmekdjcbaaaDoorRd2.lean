/-
  A copy that may be written: bytes.Clone, the Reader's Raw and Text, a call of a Reader by its kind; NewReader with the bounds of its block; End. · A region that draws its order, whose operations read and whose callees leave a world of a class: one walk in the order of the text. The class's worlds are named by a type of their own, so that a fact on all of them is a plain equation.
-/
import Derived.Test.YtdjnjmekdjcbaaaDoorRdK
import Derived.Test.YtdjnjmekdjcbaaaDoorQT
namespace Go.Proofs.YtdjnjmekdjcbaaaDoor
open Go Go.RowKit
set_option linter.unusedVariables false

/-- a copy of bytes in memory of its own, which may be written -/
def Copied2 (w : World) (n : Nat) (l : List Nat) (e : Value) (w' : World) : Prop := ∃ a c, e = .slice a n c ∧ n ≤ c ∧ Bs w' (.slice a n c) l ∧ (a = none → c = 0) ∧ (∀ ad, a = some ad → w.heap.size ≤ ad.block ∧ ad.block < w'.heap.size) ∧ Below w.heap.size w w' ∧ w'.ownsRow w.heap.size 5 1 (.slice a n c) n (u8s l)
theorem owns_nilD (w : World) (base : Nat) : w.ownsRow base 5 1 (.slice none 0 0) 0 (u8s []) := ⟨rfl, .inl ⟨rfl, rfl⟩⟩
theorem owns_baseD {w : World} {b0 b1 m : Nat} {v : Value} {xs : List Value} (h : w.ownsRow b1 5 1 v m xs) (hb : b0 ≤ b1) : w.ownsRow b0 5 1 v m xs := by
  refine ⟨h.1, ?_⟩
  rcases h.2 with h2 | ⟨q, cap, cur, h1, h2, h3, h4⟩
  · exact .inl h2
  · exact .inr ⟨q, cap, cur, h1, Nat.le_trans hb h2, h3, h4⟩
theorem owns_belowR {w w' : World} {base m : Nat} {v : Value} {xs : List Value} (h : w.ownsRow base 5 1 v m xs) (k : Below w.heap.size w w') : w'.ownsRow base 5 1 v m xs := by
  refine ⟨h.1, ?_⟩
  rcases h.2 with h2 | ⟨q, cap, cur, h1, h2, h3, h4⟩
  · exact .inl h2
  · exact .inr ⟨q, cap, cur, h1, h2, (k.block q (lt_of_heap h3)).trans h3, h4⟩
theorem owns_keptR {w w' : World} {base g m : Nat} {v : Value} {xs : List Value} (h : w.ownsRow base 5 1 v m xs) (k : Kept g w w') (hg : g < base) : w'.ownsRow base 5 1 v m xs := by
  refine ⟨h.1, ?_⟩
  rcases h.2 with h2 | ⟨q, cap, cur, h1, h2, h3, h4⟩
  · exact .inl h2
  · exact .inr ⟨q, cap, cur, h1, h2, (k.block q (lt_of_heap h3) (by omega)).trans h3, h4⟩

set_option maxRecDepth 100000 in
set_option maxHeartbeats 2000000 in
theorem Clone2_any (a : Option Addr) (n c : Nat) (l : List Nat) (w : World) (hb : Bs w (.slice a n c) l) (hnil : a = none → c = 0) (hn : n ≤ 100000000000) :
    Calls Tryd.prog 51 #[.slice a n c] w fun e w' => ∃ v, e = .returned v ∧ Copied2 w n l v w' := by
  cases a with
  | none =>
    obtain rfl := hnil rfl
    have h0 : l = [] := by
      rcases hb.addr with ⟨h0, _⟩ | ⟨_, b, o, c', hv⟩
      · exact h0
      · simp at hv
    subst h0
    have hn0 : n = 0 := hb.len
    subst hn0
    have HB := hid hb
    have hq : (binOp .eql 27 (.slice none 0 0) (.slice none 0 0)).run Tryd.prog w = .ok (.bool true) w := run_eql_slice_nil w _ _ none 0 0 Tryd.underlying27
    clear hb
    go_enter Tryd.func51, Tryd.ntmps51
    go_wp2
    go_ret
    exact ⟨_, rfl, none, 0, rfl, Nat.le_refl _, HB.out, fun _ => rfl, (fun ad h => by cases h), Below.refl _ _, owns_nilD _ _⟩
  | some ad =>
    have HB := hid (hb.alloc (.cells #[] 5))
    have HNW := hid (heap_new w (.cells #[] 5))
    have hq : (binOp .eql 27 (.slice (some ad) n c) (.slice none 0 0)).run Tryd.prog w = .ok (.bool false) w := run_eql_slice_nil w _ _ (some ad) n c Tryd.underlying27
    clear hb hnil
    go_enter Tryd.func51, Tryd.ntmps51
    go_wp2_with (refine wpList_cloneB (by rfl) (.tmp 5) (.tmp 6) (by rfl) w.heap.size (by rfl) HNW.out (some ad) n c l (by rfl) HB.out (fun h => by cases h) (by omega) ?_
                 intro a5 c5 w5 hb5 hc5 hw5 hn5 hk5 hown5)
    go_ret
    refine ⟨_, rfl, a5, c5, rfl, hc5, hb5, hn5, fun q hq => hw5 q hq, ?_, hown5⟩
    exact (((Below.refl w.heap.size w).alloc (Nat.le_refl _) (.cells #[] 5))).trans (hk5.below (by simp) (Nat.le_refl _))

/-- the bytes that a call reads, in memory of their own that may be written, and the Reader behind it -/
def RawTo2 (w : World) (rb : Nat) (a : Option Addr) (r : List Nat × List Nat × Int) (e : Value) (w' : World) : Prop :=
  ∃ ao co, e = .slice ao r.1.length co ∧ r.1.length ≤ co ∧ (ao = none → co = 0) ∧ (∀ ad, ao = some ad → w.heap.size ≤ ad.block) ∧ Bs w' (.slice ao r.1.length co) r.1 ∧ RdTo w rb a r.2 w' ∧ w'.ownsRow w.heap.size 5 1 (.slice ao r.1.length co) r.1.length (u8s r.1)
set_option maxRecDepth 100000 in
theorem rRaw2 (rb : Nat) (a : Option Addr) (c : Nat) (l : List Nat) (err n : Int) (w : World) (R : RdAt w rb a c l err) (hl : l.length ≤ 100000000000) :
    Calls Tryd.prog 56 #[.pointer (some ⟨rb, 0, none⟩), .int .i64 n] w fun e w' => ∃ u, e = .returned u ∧ RawTo2 w rb a (rtake l err n) u w' := by
  have HN := hid (show Calls Tryd.prog 74 #[.pointer (some ⟨rb, 0, none⟩), .int .i64 n] w (fun e w' => ∃ ao co a' c', e = .returned (.slice ao (rtake l err n).1.length co) ∧ Bs w' (.slice ao (rtake l err n).1.length co) (rtake l err n).1 ∧ (rtake l err n).1.length ≤ co ∧ (ao = none → co = 0) ∧
      RdAt w' rb a' c' (rtake l err n).2.1 (rtake l err n).2.2 ∧ Kept rb w w' ∧ Src a a') from (take_any rb a c l err n w R).mono fun e w' h => by
        obtain ⟨ao, co, a', c', h1, h2, h3, h4, _, h5, h6, h7⟩ := h
        exact ⟨ao, co, a', c', h1, h2, h3, h4, h5, h6, h7⟩)
  have hle : (rtake l err n).1.length ≤ l.length := by
    unfold rtake
    split
    · simp
    · split
      · simp
      · split
        · simp
        · simp only [List.length_take]; omega
  clear R
  generalize rtake l err n = r at *
  obtain ⟨r1, r2, r3⟩ := r
  simp only at HN hle ⊢
  obtain ⟨m, hm⟩ : ∃ m, m = r1.length := ⟨_, rfl⟩
  rw [← hm] at HN hle
  have HM := hid hm
  clear hm
  go_enter Tryd.func56, Tryd.ntmps56
  go_wp2_with fail
  refine HN.out.mono ?_
  clear HN
  rintro e w2 ⟨ao, co, a', c', rfl, hb, hco, hnil, hR, hK, hSR⟩
  have HR := hid hR
  have HK := hid hK
  have HC := hid (Clone2_any ao m co r1 w2 hb hnil (by omega))
  clear hb hnil hR hK
  go_wp2_with fail
  refine HC.out.mono ?_
  clear HC
  rintro e w3 ⟨u, rfl, au, cu, rfl, hcu, hbu, hnu, hfu, hbel, hou⟩
  have HZ := hid (show RawTo2 w rb a (r1, r2, r3) (.slice au m cu) w3 from by
    rw [HM.out] at hcu hbu hou ⊢
    exact ⟨au, cu, rfl, hcu, hnu, fun ad e => Nat.le_trans HK.out.size (hfu ad e).1, hbu, ⟨a', c', HR.out.below hbel, HK.out.trans (Kept.of_below hbel), hSR⟩, owns_baseD hou HK.out.size⟩)
  clear hcu hbu hnu hfu hbel hou HR HK
  go_wp2
  go_ret
  exact ⟨_, rfl, HZ.out⟩

set_option maxRecDepth 100000 in
set_option maxHeartbeats 1000000 in
theorem rText2 (rb : Nat) (a : Option Addr) (c : Nat) (l : List Nat) (err : Int) (w : World) (R : RdAt w rb a c l err) (hl : l.length ≤ 100000000000) :
    Calls Tryd.prog 57 #[.pointer (some ⟨rb, 0, none⟩)] w fun e w' => ∃ u, e = .returned u ∧ RawTo2 w rb a (rtext l err) u w' := by
  have HN := hid (rU16 rb a c l err w R)
  obtain ⟨c0, c1⟩ := R.c
  have HR0 := hid R
  have hlt : rnum l err 2 < 65536 := rnum_lt l err 2 R.bs.lt
  have h0 : IntKind.i64.wrap ((rnum l err 2 : Nat) : Int) = ((rnum l err 2 : Nat) : Int) := by rw [IntKind.wrap_i64]; omega
  have HT := hid (show rtext l err = (if (rtake (rtake l err 2).2.1 (rtake l err 2).2.2 ((rnum l err 2 : Nat) : Int)).2.2 ≠ 0 then ((rtake (rtake l err 2).2.1 (rtake l err 2).2.2 ((rnum l err 2 : Nat) : Int)).1, l, (rtake (rtake l err 2).2.1 (rtake l err 2).2.2 ((rnum l err 2 : Nat) : Int)).2.2) else rtake (rtake l err 2).2.1 (rtake l err 2).2.2 ((rnum l err 2 : Nat) : Int)) from rfl)
  have HL2 := hid (show (rtake l err 2).2.1.length ≤ 100000000000 from by
    refine Nat.le_trans ?_ hl
    unfold rtake
    split
    · simp
    · split
      · simp
      · split
        · simp
        · simp only [List.length_drop]; omega)
  obtain ⟨ll, hll⟩ : ∃ x, x = l.length := ⟨_, rfl⟩
  rw [← hll] at c0
  have HLL := hid hll
  clear R hlt hll
  go_enter Tryd.func57, Tryd.ntmps57
  go_wp2_with fail
  refine HN.out.mono ?_
  clear HN
  rintro e w2 ⟨rfl, a2, c2, hR2, hK2, hS2⟩
  have HK2 := hid hK2
  generalize rnum l err 2 = x at *
  generalize rtake l err 2 = t at *
  have HQ := hid (rRaw2 rb a2 c2 t.2.1 t.2.2 (x : Int) w2 hR2 HL2.out)
  clear hR2 hK2 c0 c1
  go_wp2_with fail
  refine HQ.out.mono ?_
  clear HQ
  rintro e w3 ⟨u, rfl, au, cu, rfl, hcu, hnu, hfu, hbu, ⟨a3, c3, hR3, hK3, hS3⟩, hou⟩
  have HOU := hid (owns_baseD hou HK2.out.size)
  clear hou
  generalize rtake t.2.1 t.2.2 (x : Int) = t2 at *
  obtain ⟨d0, d1⟩ := hR3.c
  have f0 := free_of_heap hR3.at_ 0
  have HR3 := hid hR3
  have HK3 := hid (HK2.out.trans hK3)
  have HF := hid (show ∀ ad, au = some ad → w.heap.size ≤ ad.block from fun ad e => Nat.le_trans HK2.out.size (hfu ad e))
  have HBU := hid hbu
  have HNU := hid hnu
  have hrbl : rb < w.heap.size := lt_of_heap HR0.out.at_
  clear hR3 hK3 hfu hbu hnu
  by_cases he : t2.2.2 = 0
  · have hE : (t2.2.2 != 0) = false := by rw [he]; rfl
    have HT2 := hid (show rtext l err = t2 from by rw [HT.out, if_neg (by rw [he]; simp)])
    clear HT he
    go_wp2
    go_ret
    refine ⟨_, rfl, ?_⟩
    rw [HT2.out]
    exact ⟨au, cu, rfl, hcu, HNU.out, HF.out, HBU.out, ⟨a3, c3, HR3.out, HK3.out, hS2.trans hS3⟩, HOU.out⟩
  · have hE : (t2.2.2 != 0) = true := by rw [bne_iff_ne]; exact he
    have HT2 := hid (show rtext l err = (t2.1, l, t2.2.2) from by rw [HT.out, if_pos he])
    clear HT he
    go_wp2
    go_ret
    refine ⟨_, rfl, ?_⟩
    rw [HT2.out]
    have hk : Kept rb w3 (w3.setCell ⟨rb, 0, none⟩ (.slice a ll c)) := (Kept.refl rb w3).setCell (p := ⟨rb, 0, none⟩) rfl _
    have hoffu : Off rb (.slice au t2.1.length cu) := off_to (fun ad e => by have := HF.out ad e; omega)
    refine ⟨au, cu, rfl, hcu, HNU.out, HF.out, HBU.out.kept hk hoffu, ⟨a, c, ⟨?_, ?_, HR0.out.cap, HR0.out.nil, HR0.out.off⟩, HK3.out.trans hk, Src.refl _⟩, owns_keptR HOU.out hk hrbl⟩
    · have h := heap_setCell_same w3 rb 0 _ _ (.slice a ll c) HR3.out.at_
      rw [HLL.out] at h
      simpa [HLL.out] using h
    · exact (HR0.out.bs.kept HK3.out (off_to HR0.out.off)).kept hk (off_to HR0.out.off)

def ReadTo2 (w : World) (rb : Nat) (a : Option Addr) (r : Nat × List Nat × List Nat × Int) (e : Ending) (w' : World) : Prop := ∃ u, e = .returned (.tuple #[.int .u64 ((r.1 : Nat) : Int), u]) ∧ RawTo2 w rb a r.2 u w'
theorem RawTo2.before {w0 w w' : World} {rb : Nat} {a : Option Addr} {r : List Nat × List Nat × Int} {u : Value} (h : RawTo2 w rb a r u w') (k : Kept rb w0 w) : RawTo2 w0 rb a r u w' := by
  obtain ⟨ao, co, h1, h2, h3, h4, h5, h6, h7⟩ := h
  exact ⟨ao, co, h1, h2, h3, fun ad e => Nat.le_trans k.size (h4 ad e), h5, h6.before k, owns_baseD h7 k.size⟩
theorem RdTo.raw2 {w w' : World} {rb : Nat} {a : Option Addr} {r : List Nat × Int} (h : RdTo w rb a r w') : RawTo2 w rb a ([], r) (.slice none 0 0) w' :=
  ⟨none, 0, rfl, Nat.le_refl _, fun _ => rfl, (fun ad e => by cases e), bs_nilH _ _ _, h, owns_nilD _ _⟩
set_option maxRecDepth 100000 in
set_option maxHeartbeats 4000000 in
theorem read2_any (rb x n c cr : Nat) (k nn err : Int) (a ar : Option Addr) (l : List Nat) (w : World) (R : RdAt w rb ar cr l err) (hl : l.length ≤ 100000000000) :
    Calls Tryd.prog 17 #[.pointer (some ⟨rb, 0, none⟩), .agg #[.int .i64 k, .int .u64 (x : Int), .int .i64 nn, .slice a n c]] w fun e w' => ReadTo2 w rb ar (rop l err k nn) e w' := by
  obtain ⟨w1, hw1⟩ : ∃ y, y = w.alloc (.cells #[.int .i64 k, .int .u64 (x : Int), .int .i64 nn, .slice a n c] 33) := ⟨_, rfl⟩
  obtain ⟨c0, c1, c2, c3⟩ := ocells w k x nn a n c
  rw [← hw1] at c0 c1 c2 c3
  have hb1 : Below w.heap.size w w1 := by rw [hw1]; exact (Below.refl _ _).alloc (Nat.le_refl _) _
  have HR1 := hid (R.below hb1)
  have HK1 := hid (show Kept rb w w1 from Kept.of_below hb1)
  have HL := hid hl
  clear R hb1 hl
  by_cases h1 : k = 1
  · subst h1
    have HQ := hid (rU8 rb ar cr l err w1 HR1.out)
    have HP := hid (show rop l err 1 nn = (rnum l err 1, [], (rtake l err 1).2) from rfl)
    have hlt : rnum l err 1 < 256 := rnum_lt l err 1 HR1.out.bs.lt
    generalize rop l err 1 nn = q at *
    generalize (rtake l err 1).2 = t at *
    generalize rnum l err 1 = y at *
    have h0 : IntKind.u64.wrap (y : Int) = (y : Int) := by rw [IntKind.wrap_u64]; omega
    clear hlt
    go_enter Tryd.func17, Tryd.ntmps17
    go_upto_region 1 with fail
    change Code.wp _ _ _ _ (w.alloc (.cells #[.int .i64 1, .int .u64 (x : Int), .int .i64 nn, .slice a n c] 33))
    rw [← hw1]
    clear hw1
    go_wp2_with fail
    refine HQ.out.mono ?_
    clear HQ
    rintro e w2 ⟨rfl, hR2⟩
    have HZ := hid (hR2.before HK1.out).raw2
    clear hR2
    go_wp2
    go_ret2
    exact ⟨_, by rw [HP.out]; rfl, by rw [HP.out]; exact HZ.out⟩
  by_cases h2 : k = 2
  · subst h2
    have HQ := hid (rU16 rb ar cr l err w1 HR1.out)
    have HP := hid (show rop l err 2 nn = (rnum l err 2, [], (rtake l err 2).2) from rfl)
    have hlt : rnum l err 2 < 65536 := rnum_lt l err 2 HR1.out.bs.lt
    generalize rop l err 2 nn = q at *
    generalize (rtake l err 2).2 = t at *
    generalize rnum l err 2 = y at *
    have h0 : IntKind.u64.wrap (y : Int) = (y : Int) := by rw [IntKind.wrap_u64]; omega
    clear hlt
    go_enter Tryd.func17, Tryd.ntmps17
    go_upto_region 1 with fail
    change Code.wp _ _ _ _ (w.alloc (.cells #[.int .i64 2, .int .u64 (x : Int), .int .i64 nn, .slice a n c] 33))
    rw [← hw1]
    clear hw1
    go_wp2_with fail
    refine HQ.out.mono ?_
    clear HQ
    rintro e w2 ⟨rfl, hR2⟩
    have HZ := hid (hR2.before HK1.out).raw2
    clear hR2
    go_wp2
    go_ret2
    exact ⟨_, by rw [HP.out]; rfl, by rw [HP.out]; exact HZ.out⟩
  by_cases h3 : k = 3
  · subst h3
    have HQ := hid (rU32 rb ar cr l err w1 HR1.out)
    have HP := hid (show rop l err 3 nn = (rnum l err 4, [], (rtake l err 4).2) from rfl)
    have hlt : rnum l err 4 < 4294967296 := rnum_lt l err 4 HR1.out.bs.lt
    generalize rop l err 3 nn = q at *
    generalize (rtake l err 4).2 = t at *
    generalize rnum l err 4 = y at *
    have h0 : IntKind.u64.wrap (y : Int) = (y : Int) := by rw [IntKind.wrap_u64]; omega
    clear hlt
    go_enter Tryd.func17, Tryd.ntmps17
    go_upto_region 1 with fail
    change Code.wp _ _ _ _ (w.alloc (.cells #[.int .i64 3, .int .u64 (x : Int), .int .i64 nn, .slice a n c] 33))
    rw [← hw1]
    clear hw1
    go_wp2_with fail
    refine HQ.out.mono ?_
    clear HQ
    rintro e w2 ⟨rfl, hR2⟩
    have HZ := hid (hR2.before HK1.out).raw2
    clear hR2
    go_wp2
    go_ret2
    exact ⟨_, by rw [HP.out]; rfl, by rw [HP.out]; exact HZ.out⟩
  by_cases h4 : k = 4
  · subst h4
    have HQ := hid (rU64 rb ar cr l err w1 HR1.out)
    have HP := hid (show rop l err 4 nn = (rnum l err 8, [], (rtake l err 8).2) from rfl)
    generalize rop l err 4 nn = q at *
    generalize (rtake l err 8).2 = t at *
    generalize rnum l err 8 = y at *
    go_enter Tryd.func17, Tryd.ntmps17
    go_upto_region 1 with fail
    change Code.wp _ _ _ _ (w.alloc (.cells #[.int .i64 4, .int .u64 (x : Int), .int .i64 nn, .slice a n c] 33))
    rw [← hw1]
    clear hw1
    go_wp2_with fail
    refine HQ.out.mono ?_
    clear HQ
    rintro e w2 ⟨rfl, hR2⟩
    have HZ := hid (hR2.before HK1.out).raw2
    clear hR2
    go_wp2
    go_ret2
    exact ⟨_, by rw [HP.out]; rfl, by rw [HP.out]; exact HZ.out⟩
  by_cases h5 : k = 5
  · subst h5
    have HQ := hid (rRaw2 rb ar cr l err nn w1 HR1.out HL.out)
    have HP := hid (show rop l err 5 nn = (0, rtake l err nn) from rfl)
    generalize rop l err 5 nn = q at *
    generalize rtake l err nn = t at *
    go_enter Tryd.func17, Tryd.ntmps17
    go_upto_region 1 with fail
    change Code.wp _ _ _ _ (w.alloc (.cells #[.int .i64 5, .int .u64 (x : Int), .int .i64 nn, .slice a n c] 33))
    rw [← hw1]
    clear hw1
    go_wp2_with fail
    refine HQ.out.mono ?_
    clear HQ
    rintro e w2 ⟨u, rfl, hR2⟩
    have HZ := hid (hR2.before HK1.out)
    clear hR2
    go_wp2
    go_ret2
    exact ⟨_, by rw [HP.out]; rfl, by rw [HP.out]; exact HZ.out⟩
  by_cases h6 : k = 6
  · subst h6
    have HQ := hid (rText2 rb ar cr l err w1 HR1.out HL.out)
    have HP := hid (show rop l err 6 nn = (0, rtext l err) from rfl)
    generalize rop l err 6 nn = q at *
    generalize rtext l err = t at *
    go_enter Tryd.func17, Tryd.ntmps17
    go_upto_region 1 with fail
    change Code.wp _ _ _ _ (w.alloc (.cells #[.int .i64 6, .int .u64 (x : Int), .int .i64 nn, .slice a n c] 33))
    rw [← hw1]
    clear hw1
    go_wp2_with fail
    refine HQ.out.mono ?_
    clear HQ
    rintro e w2 ⟨u, rfl, hR2⟩
    have HZ := hid (hR2.before HK1.out)
    clear hR2
    go_wp2
    go_ret2
    exact ⟨_, by rw [HP.out]; rfl, by rw [HP.out]; exact HZ.out⟩
  have HP := hid (show rop l err k nn = (0, [], l, err) from by unfold rop; rw [if_neg h1, if_neg h2, if_neg h3, if_neg h4, if_neg h5, if_neg h6])
  generalize rop l err k nn = q at *
  go_enter Tryd.func17, Tryd.ntmps17
  go_upto_region 1 with fail
  change Code.wp _ _ _ _ (w.alloc (.cells #[.int .i64 k, .int .u64 (x : Int), .int .i64 nn, .slice a n c] 33))
  rw [← hw1]
  clear hw1
  have b1 : (k == 1) = false := by rw [beq_eq_false_iff_ne]; exact h1
  have b2 : (k == 2) = false := by rw [beq_eq_false_iff_ne]; exact h2
  have b3 : (k == 3) = false := by rw [beq_eq_false_iff_ne]; exact h3
  have b4 : (k == 4) = false := by rw [beq_eq_false_iff_ne]; exact h4
  have b5 : (k == 5) = false := by rw [beq_eq_false_iff_ne]; exact h5
  have b6 : (k == 6) = false := by rw [beq_eq_false_iff_ne]; exact h6
  have HZ := hid (show RawTo2 w rb ar ([], l, err) (.slice none 0 0) w1 from RdTo.raw2 ⟨ar, cr, HR1.out, HK1.out, Src.refl _⟩)
  go_wp2
  go_ret2
  exact ⟨_, by rw [HP.out]; rfl, by rw [HP.out]; exact HZ.out⟩
set_option maxRecDepth 100000 in
set_option maxHeartbeats 2000000 in
theorem NewReader2_any (a : Option Addr) (n c : Nat) (l : List Nat) (w : World) (hb : Bs w (.slice a n c) l) (hnil : a = none → c = 0) (hn : n ≤ 100000000000) :
    Calls Tryd.prog 16 #[.slice a n c] w fun e w' => ∃ rb a' c', e = .returned (.pointer (some ⟨rb, 0, none⟩)) ∧ w.heap.size ≤ rb ∧ RdAt w' rb a' c' l 0 ∧ rb < w'.heap.size ∧ (∀ ad, a' = some ad → w.heap.size ≤ ad.block ∧ ad.block < rb) ∧ Below w.heap.size w w' := by
  have hlen := hb.len
  have HC := hid (Clone_any a n c l w hb hnil hn)
  have HL := hid (fun (_ : Unit) => hlen)
  clear hb hnil hlen
  go_enter Tryd.func16, Tryd.ntmps16
  go_wp2_with fail
  refine HC.out.mono ?_
  rintro e w2 ⟨v, rfl, a', c', rfl, hc', hbs, hnil', hfar, hbel⟩
  have HB := hid hbs
  have HN := hid hnil'
  have HFA := hid hfar
  have HBE := hid hbel
  have hsz := hbel.size
  clear hbs hnil' hfar hbel
  go_wp2
  go_ret
  refine ⟨w2.heap.size, a', c', rfl, hsz, ⟨?_, ?_, ?_, HN.out, ?_⟩, by simp, fun ad e => HFA.out ad e, HBE.out.alloc hsz _⟩
  · have h := heap_new w2 (.cells #[.slice a' n c', .int .i64 0] 94)
    rw [← HL.out ()]
    exact h
  · rw [← HL.out ()]; exact HB.out.alloc _
  · rw [← HL.out ()]; exact hc'
  · intro ad e h
    have h2 := (HFA.out ad e).2
    omega

set_option maxRecDepth 100000 in
theorem rEnd_any (rb : Nat) (a : Option Addr) (c : Nat) (l : List Nat) (err : Int) (w : World) (R : RdAt w rb a c l err) :
    Calls Tryd.prog 21 #[.pointer (some ⟨rb, 0, none⟩)] w fun e w' => e = .returned (.int .i64 (if err = 0 ∧ 0 < l.length then 5 else err)) ∧ w = w' := by
  have H1 := hid (Err_any rb a c l err w R)
  have H2 := hid (Rest_any rb a c l err w R)
  clear R
  generalize l.length = m at *
  by_cases h0 : err = 0
  · subst h0
    by_cases hn : 0 < m
    · have hI : (0 : Int) < (m : Int) := by omega
      rw [if_pos ⟨rfl, hn⟩]
      go_enter Tryd.func21, Tryd.ntmps21
      go_wp2_with fail
      refine H1.out.mono ?_
      rintro e w2 ⟨rfl, rfl⟩
      go_wp2_with fail
      refine H2.out.mono ?_
      rintro e w2 ⟨rfl, rfl⟩
      go_wp2
      go_ret
      exact ⟨rfl, rfl⟩
    · obtain rfl : m = 0 := by omega
      rw [if_neg (fun h => hn h.2)]
      go_enter Tryd.func21, Tryd.ntmps21
      go_wp2_with fail
      refine H1.out.mono ?_
      rintro e w2 ⟨rfl, rfl⟩
      go_wp2_with fail
      refine H2.out.mono ?_
      rintro e w2 ⟨rfl, rfl⟩
      go_wp2_with fail
      refine H1.out.mono ?_
      rintro e w2 ⟨rfl, rfl⟩
      go_wp2
      go_ret
      exact ⟨rfl, rfl⟩
  · have hE : (err == 0) = false := by simpa using h0
    rw [if_neg (fun h => h0 h.1)]
    go_enter Tryd.func21, Tryd.ntmps21
    go_wp2_with fail
    refine H1.out.mono ?_
    rintro e w2 ⟨rfl, rfl⟩
    go_wp2_with fail
    refine H1.out.mono ?_
    rintro e w2 ⟨rfl, rfl⟩
    go_wp2
    go_ret
    exact ⟨rfl, rfl⟩
/-- a copy that may be written, or no bytes -/
def CpB (w : World) (g c m : Nat) (a : Option Addr) : Prop := 0 < m → a = some ⟨g, 0, none⟩ ∧ ∃ l : List Nat, l.length = m ∧ (∀ i, l.getD i 0 < 256) ∧ Buf w g c l
theorem set_ltB (l : List Nat) (h : ∀ i, l.getD i 0 < 256) (j y : Nat) (hy : y < 256) : ∀ i, (l.set j y).getD i 0 < 256 := fun i => by
  rw [List.getD_eq_getElem?_getD, List.getElem?_set]
  split
  · split
    · exact hy
    · decide
  · rw [← List.getD_eq_getElem?_getD]; exact h i
theorem cpB_of {w : World} {g0 c m : Nat} {a : Option Addr} {l : List Nat} (h : w.ownsRow g0 5 1 (.slice a m c) m (u8s l)) (hg : g0 < w.heap.size) (hl : ∀ i, l.getD i 0 < 256) : ∃ g, g0 ≤ g ∧ g < w.heap.size ∧ CpB w g c m a := by
  by_cases h0 : 0 < m
  · obtain ⟨g, h1, h2, h3, h4⟩ := buf_of_owns h h0
    exact ⟨g, h2, h3.lt, fun _ => ⟨h1, l, h4.symm, hl, h3⟩⟩
  · exact ⟨g0, Nat.le_refl _, hg, fun h => absurd h h0⟩
theorem CpB.same {w w' : World} {g c m : Nat} {a : Option Addr} (h : CpB w g c m a) (k : w'.heap[g]? = w.heap[g]?) : CpB w' g c m a := fun h0 => by
  obtain ⟨h1, l, h2, h3, h4⟩ := h h0
  exact ⟨h1, l, h2, h3, h4.of_same k⟩
/-- the four cells of a call -/
theorem ops_atR {w : World} {v : Value} {os : List OpV} (h : Ops w v os) (i : Nat) (hi : i < os.length) : ∃ b o c, v = .slice (some ⟨b, o, none⟩) os.length c ∧
    w.cell? ⟨b, o + i * 4, none⟩ = some (.int .i64 os[i].1) ∧ w.cell? ⟨b, o + i * 4 + 1, none⟩ = some (.int .u64 (os[i].2.1 : Int)) ∧ w.cell? ⟨b, o + i * 4 + 2, none⟩ = some (.int .i64 os[i].2.2.1) ∧
    w.cell? ⟨b, o + i * 4 + 3, none⟩ = some (.slice os[i].2.2.2.1 os[i].2.2.2.2.1 os[i].2.2.2.2.2.1) ∧ ByD w os[i].2.2.2.1 os[i].2.2.2.2.1 os[i].2.2.2.2.2.1 os[i].2.2.2.2.2.2 ∧ os[i].2.1 < 18446744073709551616 := by
  obtain ⟨a, c, rfl, hc⟩ := h
  obtain ⟨b, o, rfl, hcell⟩ := hc (fun e => by rw [e] at hi; exact absurd hi (Nat.not_lt_zero _))
  obtain ⟨h1, h2, h3, h4, h5, h6, _⟩ := hcell i hi
  exact ⟨b, o, c, rfl, h1, h2, h3, h4, h5, h6⟩
end Go.Proofs.YtdjnjmekdjcbaaaDoor

namespace Go.Proofs.YtdjnjmekdjcbaaaDoor
open Go Go.RowKit
set_option linter.unusedVariables false

/-- the worlds of the class G -/
structure Cls (G : World → Prop) where
  w : World
  h : G w
theorem wp_region_class_lit {P : Program} {id : Nat} {Q : Exit → Act → World → Prop} {a : Act} {w : World} {l : List Oper} {G : World → Prop} (hm : P.follows .mixedOrders = true) (hB : Region.lexB .any l.toArray = true) (hC : G { w with drawn := w.drawn + 1 })
    (h : wpQuiet P l.toArray (fun w' => ∃ p : Cls G, w' = p.w) (fun a' => ∀ w', (∃ p : Cls G, w' = p.w) → Q .normal a' w') l a) : (Code.region id l.toArray true).wp P Q a w :=
  wp_region_quiet (C := fun w' => ∃ p : Cls G, w' = p.w) hm hB ⟨⟨_, hC⟩, rfl⟩ (by simpa using h)
/-- a callee that makes memory only, met in a world behind w1 -/
theorem Calls.cls {P : Program} {f : FuncId} {args : Array Value} {w1 : World} {p : Cls fun w' => Below w1.heap.size w1 w'} {v : Value}
    (h : Calls P f args p.w fun e w' => e = .returned v ∧ Below p.w.heap.size p.w w') : Calls P f args p.w fun e w'' => e = .returned v ∧ ∃ q : Cls (fun w' => Below w1.heap.size w1 w'), w'' = q.w :=
  h.mono fun _ w' ⟨he, hb⟩ => ⟨he, ⟨w', p.h.trans (hb.mono p.h.size)⟩, rfl⟩
/-- .. and one that leaves the world alone -/
theorem Calls.cls_same {P : Program} {f : FuncId} {args : Array Value} {G : World → Prop} {p : Cls G} {v : Value}
    (h : Calls P f args p.w fun e w' => e = .returned v ∧ w' = p.w) : Calls P f args p.w fun e w'' => e = .returned v ∧ ∃ q : Cls G, w'' = q.w :=
  h.mono fun _ _ ⟨he, hm⟩ => ⟨he, p, hm⟩
/-- n operations of the class in any order, then the rest one by one -/
theorem region_class_tail {P : Program} {id : Nat} {Q : Exit → Act → World → Prop} {a : Act} {w : World} {l : List Oper} {G : World → Prop} (n : Nat) (hm : P.follows .mixedOrders = true) (hB : Region.lexTailB .any l.toArray n = true) (hC : G { w with drawn := w.drawn + 1 })
    (h : wpQuiet P l.toArray (fun w' => ∃ p : Cls G, w' = p.w) (fun b => ∀ p : Cls G, wpList P l.toArray Q (l.drop n) b p.w) (l.take n) a) : (Code.region id l.toArray true).wp P Q a w := by
  simp only [Region.lexTailB, Bool.and_eq_true, decide_eq_true_eq] at hB
  obtain ⟨⟨⟨⟨hsel, hn⟩, hs⟩, hc⟩, hlex⟩ := hB
  have hn' : n < l.length := by simpa using hn
  have htl : (l.take n).length = n := by rw [List.length_take]; omega
  have hdl : (l.drop n).length = l.toArray.size - n := by simp
  have inv : HeadInv .any l.toArray n (Array.replicate l.toArray.size false) :=
    ⟨by simp, fun j _ _ hl => (by rw [getD_replicate_false] at hl; cases hl), fun t _ ht => getD_in (by simpa using ht) (getD_replicate_false _ _)⟩
  have hlex' : Region.lexHead .any l.toArray (l.toArray.size - n) (l.take n).length 0 (Array.replicate l.toArray.size false) = true := by rw [htl]; exact hlex
  have H := Quiets.lex hsel hs hc hn (l.take n) 0 _ a (fun j hj => by rw [htl] at hj; simp [hj]) (by omega) inv hlex' h
  refine wp_region_any hm ?_
  have hrun := Quiets.runs (Q := Q) (g := l.toArray.size - n) (fun done b w' hw' hL => by
    obtain ⟨p, rfl⟩ := hw'
    have := wpAny_of_seq (md := .any) (Q' := Q) (l.drop n) n done b p.w (fun j => by simp [List.getElem?_drop]) (by rw [hdl]; exact hL.1) (hL.2 p)
    rwa [hdl] at this) _ _ a _ ⟨⟨_, hC⟩, rfl⟩ H
  rw [htl, show n + (l.toArray.size - n) = l.toArray.size by omega] at hrun
  exact hrun
end Go.Proofs.YtdjnjmekdjcbaaaDoor
