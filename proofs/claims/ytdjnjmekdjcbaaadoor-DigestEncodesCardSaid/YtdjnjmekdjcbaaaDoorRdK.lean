/-
  A call of a Reader's method by its kind.
-/
import Derived.Test.YtdjnjmekdjcbaaaDoorRdo
namespace Go.Proofs.YtdjnjmekdjcbaaaDoor
open Go Go.RowKit
set_option linter.unusedVariables false

/-- the number, the bytes and the Reader behind a call of the kind k -/
def rop (l : List Nat) (err k nn : Int) : Nat × List Nat × List Nat × Int :=
  if k = 1 then (rnum l err 1, [], (rtake l err 1).2) else if k = 2 then (rnum l err 2, [], (rtake l err 2).2) else if k = 3 then (rnum l err 4, [], (rtake l err 4).2)
  else if k = 4 then (rnum l err 8, [], (rtake l err 8).2) else if k = 5 then (0, rtake l err nn) else if k = 6 then (0, rtext l err) else (0, [], l, err)
/-- what a call leaves -/
def ReadTo (w : World) (rb : Nat) (a : Option Addr) (r : Nat × List Nat × List Nat × Int) (e : Ending) (w' : World) : Prop := ∃ u, e = .returned (.tuple #[.int .u64 ((r.1 : Nat) : Int), u]) ∧ RawTo w rb a r.2 u w'
theorem RdTo.before {w0 w w' : World} {rb : Nat} {a : Option Addr} {r : List Nat × Int} (h : RdTo w rb a r w') (k : Kept rb w0 w) : RdTo w0 rb a r w' := by
  obtain ⟨a', c', h1, h2, h3⟩ := h
  exact ⟨a', c', h1, k.trans h2, h3⟩
theorem RawTo.before {w0 w w' : World} {rb : Nat} {a : Option Addr} {r : List Nat × List Nat × Int} {u : Value} (h : RawTo w rb a r u w') (k : Kept rb w0 w) : RawTo w0 rb a r u w' := by
  obtain ⟨ao, co, h1, h2, h3, h4, h5, h6⟩ := h
  exact ⟨ao, co, h1, h2, h3, fun ad e => Nat.le_trans k.size (h4 ad e), h5, h6.before k⟩
theorem RdTo.raw {w w' : World} {rb : Nat} {a : Option Addr} {r : List Nat × Int} (h : RdTo w rb a r w') : RawTo w rb a ([], r) (.slice none 0 0) w' :=
  ⟨none, 0, rfl, Nat.le_refl _, fun _ => rfl, (fun ad e => by cases e), bs_nilH _ _ _, h⟩

set_option maxRecDepth 100000 in
set_option maxHeartbeats 4000000 in
theorem read_any (rb x n c cr : Nat) (k nn err : Int) (a ar : Option Addr) (l : List Nat) (w : World) (R : RdAt w rb ar cr l err) (hl : l.length ≤ 100000000000) :
    Calls Tryd.prog 17 #[.pointer (some ⟨rb, 0, none⟩), .agg #[.int .i64 k, .int .u64 (x : Int), .int .i64 nn, .slice a n c]] w fun e w' => ReadTo w rb ar (rop l err k nn) e w' := by
  obtain ⟨w1, hw1⟩ : ∃ y, y = w.alloc (.cells #[.int .i64 k, .int .u64 (x : Int), .int .i64 nn, .slice a n c] 33) := ⟨_, rfl⟩
  obtain ⟨c0, c1, c2, c3⟩ := ocells w k x nn a n c
  rw [← hw1] at c0 c1 c2 c3
  have hb1 : Below w.heap.size w w1 := by rw [hw1]; exact (Below.refl _ _).alloc (Nat.le_refl _) _
  have HR1 := hid (R.below hb1)
  have HK1 := hid (show Kept rb w w1 from Kept.of_below hb1)
  have HL := hid hl
  clear R hb1 hl
  by_cases h1 : k = 1
  · subst h1
    have HQ := hid (rU8 rb ar cr l err w1 HR1.out)
    have HP := hid (show rop l err 1 nn = (rnum l err 1, [], (rtake l err 1).2) from rfl)
    have hlt : rnum l err 1 < 256 := rnum_lt l err 1 HR1.out.bs.lt
    generalize rop l err 1 nn = q at *
    generalize (rtake l err 1).2 = t at *
    generalize rnum l err 1 = y at *
    have h0 : IntKind.u64.wrap (y : Int) = (y : Int) := by rw [IntKind.wrap_u64]; omega
    clear hlt
    go_enter Tryd.func17, Tryd.ntmps17
    go_upto_region 1 with fail
    change Code.wp _ _ _ _ (w.alloc (.cells #[.int .i64 1, .int .u64 (x : Int), .int .i64 nn, .slice a n c] 33))
    rw [← hw1]
    clear hw1
    go_wp2_with fail
    refine HQ.out.mono ?_
    clear HQ
    rintro e w2 ⟨rfl, hR2⟩
    have HZ := hid (hR2.before HK1.out).raw
    clear hR2
    go_wp2
    go_ret2
    exact ⟨_, by rw [HP.out]; rfl, by rw [HP.out]; exact HZ.out⟩
  by_cases h2 : k = 2
  · subst h2
    have HQ := hid (rU16 rb ar cr l err w1 HR1.out)
    have HP := hid (show rop l err 2 nn = (rnum l err 2, [], (rtake l err 2).2) from rfl)
    have hlt : rnum l err 2 < 65536 := rnum_lt l err 2 HR1.out.bs.lt
    generalize rop l err 2 nn = q at *
    generalize (rtake l err 2).2 = t at *
    generalize rnum l err 2 = y at *
    have h0 : IntKind.u64.wrap (y : Int) = (y : Int) := by rw [IntKind.wrap_u64]; omega
    clear hlt
    go_enter Tryd.func17, Tryd.ntmps17
    go_upto_region 1 with fail
    change Code.wp _ _ _ _ (w.alloc (.cells #[.int .i64 2, .int .u64 (x : Int), .int .i64 nn, .slice a n c] 33))
    rw [← hw1]
    clear hw1
    go_wp2_with fail
    refine HQ.out.mono ?_
    clear HQ
    rintro e w2 ⟨rfl, hR2⟩
    have HZ := hid (hR2.before HK1.out).raw
    clear hR2
    go_wp2
    go_ret2
    exact ⟨_, by rw [HP.out]; rfl, by rw [HP.out]; exact HZ.out⟩
  by_cases h3 : k = 3
  · subst h3
    have HQ := hid (rU32 rb ar cr l err w1 HR1.out)
    have HP := hid (show rop l err 3 nn = (rnum l err 4, [], (rtake l err 4).2) from rfl)
    have hlt : rnum l err 4 < 4294967296 := rnum_lt l err 4 HR1.out.bs.lt
    generalize rop l err 3 nn = q at *
    generalize (rtake l err 4).2 = t at *
    generalize rnum l err 4 = y at *
    have h0 : IntKind.u64.wrap (y : Int) = (y : Int) := by rw [IntKind.wrap_u64]; omega
    clear hlt
    go_enter Tryd.func17, Tryd.ntmps17
    go_upto_region 1 with fail
    change Code.wp _ _ _ _ (w.alloc (.cells #[.int .i64 3, .int .u64 (x : Int), .int .i64 nn, .slice a n c] 33))
    rw [← hw1]
    clear hw1
    go_wp2_with fail
    refine HQ.out.mono ?_
    clear HQ
    rintro e w2 ⟨rfl, hR2⟩
    have HZ := hid (hR2.before HK1.out).raw
    clear hR2
    go_wp2
    go_ret2
    exact ⟨_, by rw [HP.out]; rfl, by rw [HP.out]; exact HZ.out⟩
  by_cases h4 : k = 4
  · subst h4
    have HQ := hid (rU64 rb ar cr l err w1 HR1.out)
    have HP := hid (show rop l err 4 nn = (rnum l err 8, [], (rtake l err 8).2) from rfl)
    generalize rop l err 4 nn = q at *
    generalize (rtake l err 8).2 = t at *
    generalize rnum l err 8 = y at *
    go_enter Tryd.func17, Tryd.ntmps17
    go_upto_region 1 with fail
    change Code.wp _ _ _ _ (w.alloc (.cells #[.int .i64 4, .int .u64 (x : Int), .int .i64 nn, .slice a n c] 33))
    rw [← hw1]
    clear hw1
    go_wp2_with fail
    refine HQ.out.mono ?_
    clear HQ
    rintro e w2 ⟨rfl, hR2⟩
    have HZ := hid (hR2.before HK1.out).raw
    clear hR2
    go_wp2
    go_ret2
    exact ⟨_, by rw [HP.out]; rfl, by rw [HP.out]; exact HZ.out⟩
  by_cases h5 : k = 5
  · subst h5
    have HQ := hid (rRaw rb ar cr l err nn w1 HR1.out HL.out)
    have HP := hid (show rop l err 5 nn = (0, rtake l err nn) from rfl)
    generalize rop l err 5 nn = q at *
    generalize rtake l err nn = t at *
    go_enter Tryd.func17, Tryd.ntmps17
    go_upto_region 1 with fail
    change Code.wp _ _ _ _ (w.alloc (.cells #[.int .i64 5, .int .u64 (x : Int), .int .i64 nn, .slice a n c] 33))
    rw [← hw1]
    clear hw1
    go_wp2_with fail
    refine HQ.out.mono ?_
    clear HQ
    rintro e w2 ⟨u, rfl, hR2⟩
    have HZ := hid (hR2.before HK1.out)
    clear hR2
    go_wp2
    go_ret2
    exact ⟨_, by rw [HP.out]; rfl, by rw [HP.out]; exact HZ.out⟩
  by_cases h6 : k = 6
  · subst h6
    have HQ := hid (rText rb ar cr l err w1 HR1.out HL.out)
    have HP := hid (show rop l err 6 nn = (0, rtext l err) from rfl)
    generalize rop l err 6 nn = q at *
    generalize rtext l err = t at *
    go_enter Tryd.func17, Tryd.ntmps17
    go_upto_region 1 with fail
    change Code.wp _ _ _ _ (w.alloc (.cells #[.int .i64 6, .int .u64 (x : Int), .int .i64 nn, .slice a n c] 33))
    rw [← hw1]
    clear hw1
    go_wp2_with fail
    refine HQ.out.mono ?_
    clear HQ
    rintro e w2 ⟨u, rfl, hR2⟩
    have HZ := hid (hR2.before HK1.out)
    clear hR2
    go_wp2
    go_ret2
    exact ⟨_, by rw [HP.out]; rfl, by rw [HP.out]; exact HZ.out⟩
  have HP := hid (show rop l err k nn = (0, [], l, err) from by unfold rop; rw [if_neg h1, if_neg h2, if_neg h3, if_neg h4, if_neg h5, if_neg h6])
  generalize rop l err k nn = q at *
  go_enter Tryd.func17, Tryd.ntmps17
  go_upto_region 1 with fail
  change Code.wp _ _ _ _ (w.alloc (.cells #[.int .i64 k, .int .u64 (x : Int), .int .i64 nn, .slice a n c] 33))
  rw [← hw1]
  clear hw1
  have b1 : (k == 1) = false := by rw [beq_eq_false_iff_ne]; exact h1
  have b2 : (k == 2) = false := by rw [beq_eq_false_iff_ne]; exact h2
  have b3 : (k == 3) = false := by rw [beq_eq_false_iff_ne]; exact h3
  have b4 : (k == 4) = false := by rw [beq_eq_false_iff_ne]; exact h4
  have b5 : (k == 5) = false := by rw [beq_eq_false_iff_ne]; exact h5
  have b6 : (k == 6) = false := by rw [beq_eq_false_iff_ne]; exact h6
  have HZ := hid (show RawTo w rb ar ([], l, err) (.slice none 0 0) w1 from RdTo.raw ⟨ar, cr, HR1.out, HK1.out, Src.refl _⟩)
  go_wp2
  go_ret2
  exact ⟨_, by rw [HP.out]; rfl, by rw [HP.out]; exact HZ.out⟩
end Go.Proofs.YtdjnjmekdjcbaaaDoor
