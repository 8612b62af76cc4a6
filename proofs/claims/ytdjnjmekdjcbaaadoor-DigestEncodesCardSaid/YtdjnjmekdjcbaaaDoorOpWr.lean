/-
  Writer: Text; a call of a Writer's method; heavy. · A call of a Writer's method by its kind; heavy.
-/
import Derived.Test.YtdjnjmekdjcbaaaDoorWrb
import Derived.Test.YtdjnjmekdjcbaaaDoorOpD
import Derived.Test.YtdjnjmekdjcbaaaDoorBuf
import Derived.Deep.DeepCutAuto
namespace Go.Proofs.YtdjnjmekdjcbaaaDoor
open Go Go.RowKit
set_option linter.unusedVariables false

/-- the data and whether it failed, behind an attempt to add a text -/
def wtext (lim : Nat) (l : List Nat) (f : Bool) (bs : List Nat) : List Nat × Bool := wadd lim l (f || decide (65535 < bs.length)) (beL bs.length 2 ++ bs)
theorem wadd_failed (lim : Nat) (l bs : List Nat) : wadd lim l true bs = (l, true) := by unfold wadd; rw [Bool.true_or, if_pos rfl]
theorem wadd_fits (lim : Nat) (l bs : List Nat) (h : l.length + bs.length ≤ lim) : wadd lim l false bs = (l ++ bs, false) := by
  unfold wadd
  rw [if_neg]
  simp
  omega
theorem wadd_two (lim : Nat) (l xs bs : List Nat) (h : l.length + (xs.length + bs.length) ≤ lim) : wadd lim (wadd lim l false xs).1 (wadd lim l false xs).2 bs = (l ++ (xs ++ bs), false) := by
  rw [wadd_fits lim l xs (by omega), wadd_fits lim (l ++ xs) bs (by rw [List.length_append]; omega), List.append_assoc]
theorem SameRow.own {w : World} {v v' : Value} (h : SameRow w v v') (k : Nat) (hk : k < w.heap.size) (hv : v.ownBlock ≠ some k) : v'.ownBlock ≠ some k := fun e => by
  rcases h k e with h1 | h1
  · exact hv h1
  · omega

set_option maxRecDepth 100000 in
set_option maxHeartbeats 2000000 in
theorem Text_any (wb lim n c : Nat) (a : Option Addr) (v : Value) (l bs : List Nat) (f : Bool) (w : World) (W : WrAt w wb lim v l f) (hb : Bs w (.slice a n c) bs) (hnil : a = none → c = 0) (hn : n ≤ 10000000000) (ho : ∀ ad, a = some ad → 0 < n → ad.block ≠ wb ∧ v.ownBlock ≠ some ad.block) :
    Calls Tryd.prog 48 #[.pointer (some ⟨wb, 0, none⟩), .slice a n c] w fun e w' => e = .returned (.tuple #[]) ∧ ∃ v', WrAt w' wb lim v' (wtext lim l f bs).1 (wtext lim l f bs).2 ∧ KeptR wb v w w' ∧ SameRow w v v' := by
  have hlen := hb.len
  have f2 : w.frozen? ⟨wb, 2, none⟩ = false := free_of_heap W.at_ 2
  have c2 : w.cell? ⟨wb, 2, none⟩ = some (.bool f) := by rw [cell_of_heap W.at_]; rfl
  have HB := hid hb
  have HLEN := hid hlen
  have HO := hid ho
  have HNIL := hid hnil
  have t1 : IntKind.i64.wrap (2 + (n : Int)) = 2 + (n : Int) := by rw [IntKind.wrap_i64]; omega
  have HBL := hid (beL_length bs.length 2)
  have HLTW := hid W.lt_size
  by_cases hbig : 65535 < n
  · have hI : 65535 < (n : Int) := by omega
    have HE := hid (show wtext lim l f bs = (l, true) from by unfold wtext; rw [← hlen, decide_eq_true hbig, Bool.or_true]; exact wadd_failed _ _ _)
    have W2 := W.fail
    have HW := hid W
    have HK := hid (show KeptR wb v w (w.setCell ⟨wb, 2, none⟩ (.bool true)) from (KeptR.refl wb v w).setCell 2 _)
    have HF := hid (fits_any wb lim (2 + n) v l true _ W2 (by omega))
    clear hb hlen ho hnil W W2
    have t2 : (2 : Int) + (n : Int) = ((2 + n : Nat) : Int) := by omega
    obtain ⟨n2, hn2⟩ : ∃ x, x = 2 + n := ⟨_, rfl⟩
    rw [← hn2] at t2 HF
    clear hn2
    go_enter Tryd.func48, Tryd.ntmps48
    go_wp2_with fail
    refine HF.out.mono ?_
    rintro e w3 ⟨rfl, hW3, hK3⟩
    have HW3 := hid hW3
    have HK3 := hid (HK.out.trans (SameRow.refl _ _) hK3)
    clear hW3 hK3
    rw [Bool.true_or] at HW3 ⊢
    go_wp2
    go_end0
    refine ⟨rfl, v, ?_, HK3.out, SameRow.refl _ _⟩
    rw [HE.out]
    exact HW3.out
  have hI : ¬ 65535 < (n : Int) := by omega
  have HF := hid (fits_any wb lim (2 + n) v l f _ W (by omega))
  have HE := hid (show (f || decide (lim < l.length + (2 + n))) = true → wtext lim l f bs = (l, true) from fun h => by
    unfold wtext
    rw [← hlen, decide_eq_false hbig, Bool.or_false]
    unfold wadd
    rw [List.length_append, beL_length, ← hlen, if_pos h])
  have HE2 := hid (show (f || decide (lim < l.length + (2 + n))) = false → f = false ∧ l.length + (2 + n) ≤ lim ∧ wtext lim l f bs = (l ++ (beL bs.length 2 ++ bs), false) from fun h => by
    rw [Bool.or_eq_false_iff] at h
    have h2 := h.2
    simp only [decide_eq_false_iff_not] at h2
    have h3 := h.1
    subst h3
    refine ⟨rfl, by omega, ?_⟩
    unfold wtext
    rw [← hlen, decide_eq_false hbig, Bool.or_false]
    exact wadd_fits _ _ _ (by rw [List.length_append, beL_length, ← hlen]; omega))
  have hsz := W.fit
  have hcap := W.cap
  clear hb hlen ho hnil W
  have t2 : (2 : Int) + (n : Int) = ((2 + n : Nat) : Int) := by omega
  obtain ⟨n2, hn2⟩ : ∃ x, x = 2 + n := ⟨_, rfl⟩
  have HN2 := hid hn2
  rw [← hn2] at t2 HF HE HE2
  clear hn2
  have t3 : IntKind.u16.wrap (n : Int) = (n : Int) := by rw [IntKind.wrap_u16]; omega
  go_enter Tryd.func48, Tryd.ntmps48
  go_wp2_with fail
  refine HF.out.mono ?_
  clear HF
  rintro e w3 ⟨rfl, hW3, hK3⟩
  have HW3 := hid hW3
  have HK3 := hid hK3
  clear hW3 hK3
  generalize hbb : (f || decide (lim < l.length + n2)) = b at *
  clear hbb
  cases b with
  | true =>
    have HE3 := hid (HE.out rfl)
    go_wp2
    go_end0
    refine ⟨rfl, v, ?_, HK3.out, SameRow.refl _ _⟩
    rw [HE3.out]
    exact HW3.out
  | false =>
    obtain ⟨hf, hfit, hE⟩ := HE2.out rfl
    subst hf
    have HE3 := hid hE
    have HFIT := hid hfit
    clear hE hfit
    have HU := hid (U16_any wb lim n v l false w3 HW3.out (by omega))
    go_wp2_with fail
    refine HU.out.mono ?_
    clear HU
    rintro e w4 ⟨rfl, v4, hW4, hK4, hS4⟩
    have HW4 := hid hW4
    have HK4 := hid (HK3.out.trans (SameRow.refl _ _) hK4)
    have HS4 := hid ((SameRow.refl w v).trans HK3.out.size hS4)
    clear hW4 hK4 hS4
    have HB4 := hid (HB.out.keptR HK4.out HO.out)
    have hfr : ∀ ad, a = some ad → 0 < n → ad.block ≠ wb ∧ v4.ownBlock ≠ some ad.block := fun ad e h0 => by
      obtain ⟨h1, h2⟩ := HO.out ad e h0
      refine ⟨h1, HS4.out.own _ ?_ h2⟩
      rcases HB.out.addr with ⟨h3, _⟩ | ⟨_, b, o, c', hv⟩
      · have h4 := HLEN.out; rw [h3] at h4; simp at h4; omega
      · simp only [Value.slice.injEq] at hv
        obtain ⟨rfl, _, _⟩ := hv
        cases e
        exact World.block_lt_of_cell? _ _ (HB.out.cell 0 (by rw [← HLEN.out]; exact h0))
    have HR := hid (Raw_any wb lim n c a v4 _ bs _ w4 HW4.out HB4.out HNIL.out (by omega) hfr)
    clear hfr
    go_wp2_with fail
    refine HR.out.mono ?_
    clear HR
    rintro e w5 ⟨rfl, v5, hW5, hK5, hS5⟩
    have HW5 := hid hW5
    have HK5 := hid (HK4.out.trans HS4.out hK5)
    have HS5 := hid (HS4.out.trans HK4.out.size hS5)
    clear hW5 hK5 hS5
    go_wp2
    go_end0
    refine ⟨rfl, v5, ?_, HK5.out, HS5.out⟩
    have h := HW5.out
    rw [← HLEN.out] at HE3
    rw [wadd_two lim l (beL n 2) bs (by have h1 := HFIT.out; have h2 := HN2.out; have h3 := HLEN.out; rw [beL_length]; omega)] at h
    rw [HE3.out]
    exact h
end Go.Proofs.YtdjnjmekdjcbaaaDoor

namespace Go.Proofs.YtdjnjmekdjcbaaaDoor
open Go Go.RowKit
set_option linter.unusedVariables false

/-- the data and whether it failed, behind a call of the kind k -/
def wop (lim : Nat) (l : List Nat) (f : Bool) (k : Int) (x : Nat) (bs : List Nat) : List Nat × Bool :=
  if k = 1 then wadd lim l f (beL (x % 256) 1) else if k = 2 then wadd lim l f (beL (x % 65536) 2) else if k = 3 then wadd lim l f (beL (x % 4294967296) 4)
  else if k = 4 then wadd lim l f (beL x 8) else if k = 5 then wadd lim l f bs else if k = 6 then wtext lim l f bs else (l, f)
/-- what a call leaves -/
def Wrote (wb lim : Nat) (v : Value) (r : List Nat × Bool) (w w' : World) : Prop := ∃ v', WrAt w' wb lim v' r.1 r.2 ∧ KeptR wb v w w' ∧ SameRow w v v'
theorem KeptR.alloc {wb : Nat} {v : Value} {w w' : World} (h : KeptR wb v w w') (o : Obj) : KeptR wb v w (w'.alloc o) :=
  ⟨h.os, h.tape, h.output, by simpa using Nat.le_succ_of_le h.size, fun k hk hb hv => by rw [heap_alloc_old _ _ (by have := h.size; omega)]; exact h.block k hk hb hv⟩
theorem WrAt.alloc {w : World} {wb lim : Nat} {v : Value} {l : List Nat} {f : Bool} (W : WrAt w wb lim v l f) (o : Obj) : WrAt (w.alloc o) wb lim v l f :=
  ⟨by rw [heap_alloc_old _ _ W.lt_size]; exact W.at_, W.own.alloc _, W.lt, W.fit, W.cap⟩
theorem KeptR.of_below {wb : Nat} {v : Value} {w w' : World} (h : Below w.heap.size w w') : KeptR wb v w w' := ⟨h.os, h.tape, h.output, h.size, fun k hk _ _ => h.block k hk⟩
theorem WrAt.belowO {w w' : World} {wb lim : Nat} {v : Value} {l : List Nat} {f : Bool} (W : WrAt w wb lim v l f) (h : Below w.heap.size w w') : WrAt w' wb lim v l f :=
  ⟨(h.block _ W.lt_size).trans W.at_, ⟨W.own.1, by
    rcases W.own.2 with h2 | ⟨q, cap, cur, h1, h2, h3, h4⟩
    · exact .inl h2
    · exact .inr ⟨q, cap, cur, h1, h2, (h.block q (lt_of_heap h3)).trans h3, h4⟩⟩, W.lt, W.fit, W.cap⟩
theorem ocells (w : World) (k : Int) (x : Nat) (nn : Int) (a : Option Addr) (n c : Nat) :
    let w1 := w.alloc (.cells #[.int .i64 k, .int .u64 (x : Int), .int .i64 nn, .slice a n c] 33)
    w1.cell? ⟨w.heap.size, 0, none⟩ = some (.int .i64 k) ∧ w1.cell? ⟨w.heap.size, 1, none⟩ = some (.int .u64 (x : Int)) ∧ w1.cell? ⟨w.heap.size, 2, none⟩ = some (.int .i64 nn) ∧ w1.cell? ⟨w.heap.size, 3, none⟩ = some (.slice a n c) := by
  intro w1
  have h := heap_new w (.cells #[.int .i64 k, .int .u64 (x : Int), .int .i64 nn, .slice a n c] 33)
  refine ⟨?_, ?_, ?_, ?_⟩ <;> rw [cell_of_heap h] <;> rfl

set_option maxRecDepth 100000 in
set_option maxHeartbeats 4000000 in
theorem write_any (wb lim x n c : Nat) (k nn : Int) (a : Option Addr) (v : Value) (l bs : List Nat) (f : Bool) (w : World) (W : WrAt w wb lim v l f) (hx : x < 18446744073709551616) (hb : Bs w (.slice a n c) bs) (hnil : a = none → c = 0) (hn : n ≤ 1000000000) :
    Calls Tryd.prog 12 #[.pointer (some ⟨wb, 0, none⟩), .agg #[.int .i64 k, .int .u64 (x : Int), .int .i64 nn, .slice a n c]] w fun e w' => e = .returned (.tuple #[]) ∧ Wrote wb lim v (wop lim l f k x bs) w w' := by
  obtain ⟨w1, hw1⟩ : ∃ y, y = w.alloc (.cells #[.int .i64 k, .int .u64 (x : Int), .int .i64 nn, .slice a n c] 33) := ⟨_, rfl⟩
  obtain ⟨c0, c1, c2, c3⟩ := ocells w k x nn a n c
  rw [← hw1] at c0 c1 c2 c3
  have HW1 := hid (show WrAt w1 wb lim v l f from by rw [hw1]; exact W.alloc _)
  have HK1 := hid (show KeptR wb v w w1 from by rw [hw1]; exact (KeptR.refl wb v w).alloc _)
  have HB1 := hid (show Bs w1 (.slice a n c) bs from by rw [hw1]; exact hb.alloc _)
  have HNIL := hid hnil
  have hsz1 : w1.heap.size = w.heap.size + 1 := by rw [hw1]; simp
  have hszl : w.heap.size < w1.heap.size := by omega
  have HSZ1 := hid hsz1
  clear hsz1
  have hwl := W.lt_size
  have HOW := hid (fun k (h : v.ownBlock = some k) => (W.own.lt k h).2)
  clear W hb hnil
  have hx8 : IntKind.u8.wrap (x : Int) = ((x % 256 : Nat) : Int) := by rw [IntKind.wrap_u8]; omega
  have hx16 : IntKind.u16.wrap (x : Int) = ((x % 65536 : Nat) : Int) := by rw [IntKind.wrap_u16]; omega
  have hx32 : IntKind.u32.wrap (x : Int) = ((x % 4294967296 : Nat) : Int) := by rw [IntKind.wrap_u32]; omega
  by_cases h1 : k = 1
  · subst h1
    have HQ := hid (U8_any wb lim (x % 256) v l f w1 HW1.out (by omega))
    have HR := hid (show wop lim l f 1 x bs = wadd lim l f (beL (x % 256) 1) from rfl)
    obtain ⟨y, hy⟩ : ∃ y, y = x % 256 := ⟨_, rfl⟩
    rw [← hy] at HQ HR hx8
    clear hy
    go_enter Tryd.func12, Tryd.ntmps12
    go_upto_region 1 with fail
    change Code.wp _ _ _ _ (w.alloc (.cells #[.int .i64 1, .int .u64 (x : Int), .int .i64 nn, .slice a n c] 33))
    rw [← hw1]
    clear hw1
    go_wp2_with fail
    refine HQ.out.mono ?_
    clear HQ
    rintro e w2 ⟨rfl, v2, h2, k2, s2⟩
    have HZ := hid (show Wrote wb lim v (wop lim l f 1 x bs) w w2 from by rw [HR.out]; exact ⟨v2, h2, HK1.out.trans (SameRow.refl _ _) k2, fun q hq => (s2 q hq).imp_right fun h => by have hsz1 := HSZ1.out; omega⟩)
    clear h2 k2 s2
    go_wp2
    go_end0
    exact ⟨rfl, HZ.out⟩
  by_cases h2 : k = 2
  · subst h2
    have HQ := hid (U16_any wb lim (x % 65536) v l f w1 HW1.out (by omega))
    have HR := hid (show wop lim l f 2 x bs = wadd lim l f (beL (x % 65536) 2) from rfl)
    obtain ⟨y, hy⟩ : ∃ y, y = x % 65536 := ⟨_, rfl⟩
    rw [← hy] at HQ HR hx16
    clear hy
    go_enter Tryd.func12, Tryd.ntmps12
    go_upto_region 1 with fail
    change Code.wp _ _ _ _ (w.alloc (.cells #[.int .i64 2, .int .u64 (x : Int), .int .i64 nn, .slice a n c] 33))
    rw [← hw1]
    clear hw1
    go_wp2_with fail
    refine HQ.out.mono ?_
    clear HQ
    rintro e w2 ⟨rfl, v2, h2, k2, s2⟩
    have HZ := hid (show Wrote wb lim v (wop lim l f 2 x bs) w w2 from by rw [HR.out]; exact ⟨v2, h2, HK1.out.trans (SameRow.refl _ _) k2, fun q hq => (s2 q hq).imp_right fun h => by have hsz1 := HSZ1.out; omega⟩)
    clear h2 k2 s2
    go_wp2
    go_end0
    exact ⟨rfl, HZ.out⟩
  by_cases h3 : k = 3
  · subst h3
    have HQ := hid (U32_any wb lim (x % 4294967296) v l f w1 HW1.out (by omega))
    have HR := hid (show wop lim l f 3 x bs = wadd lim l f (beL (x % 4294967296) 4) from rfl)
    obtain ⟨y, hy⟩ : ∃ y, y = x % 4294967296 := ⟨_, rfl⟩
    rw [← hy] at HQ HR hx32
    clear hy
    go_enter Tryd.func12, Tryd.ntmps12
    go_upto_region 1 with fail
    change Code.wp _ _ _ _ (w.alloc (.cells #[.int .i64 3, .int .u64 (x : Int), .int .i64 nn, .slice a n c] 33))
    rw [← hw1]
    clear hw1
    go_wp2_with fail
    refine HQ.out.mono ?_
    clear HQ
    rintro e w2 ⟨rfl, v2, h2, k2, s2⟩
    have HZ := hid (show Wrote wb lim v (wop lim l f 3 x bs) w w2 from by rw [HR.out]; exact ⟨v2, h2, HK1.out.trans (SameRow.refl _ _) k2, fun q hq => (s2 q hq).imp_right fun h => by have hsz1 := HSZ1.out; omega⟩)
    clear h2 k2 s2
    go_wp2
    go_end0
    exact ⟨rfl, HZ.out⟩
  by_cases h4 : k = 4
  · subst h4
    have HQ := hid (U64_any wb lim (x) v l f w1 HW1.out (by omega))
    have HR := hid (show wop lim l f 4 x bs = wadd lim l f (beL (x) 8) from rfl)
    go_enter Tryd.func12, Tryd.ntmps12
    go_upto_region 1 with fail
    change Code.wp _ _ _ _ (w.alloc (.cells #[.int .i64 4, .int .u64 (x : Int), .int .i64 nn, .slice a n c] 33))
    rw [← hw1]
    clear hw1
    go_wp2_with fail
    refine HQ.out.mono ?_
    clear HQ
    rintro e w2 ⟨rfl, v2, h2, k2, s2⟩
    have HZ := hid (show Wrote wb lim v (wop lim l f 4 x bs) w w2 from by rw [HR.out]; exact ⟨v2, h2, HK1.out.trans (SameRow.refl _ _) k2, fun q hq => (s2 q hq).imp_right fun h => by have hsz1 := HSZ1.out; omega⟩)
    clear h2 k2 s2
    go_wp2
    go_end0
    exact ⟨rfl, HZ.out⟩
  by_cases h5 : k = 5
  · subst h5
    have HR := hid (show wop lim l f 5 x bs = wadd lim l f bs from rfl)
    have HB2 := hid (hid (HB1.out.alloc (.cells #[] 5)))
    go_enter Tryd.func12, Tryd.ntmps12
    go_upto_region 1 with fail
    change Code.wp _ _ _ _ (w.alloc (.cells #[.int .i64 5, .int .u64 (x : Int), .int .i64 nn, .slice a n c] 33))
    rw [← hw1]
    clear hw1
    go_wp2_with (refine wpList_cloneB (by rfl) (.tmp 36) (.tmp 38) (by rfl) w1.heap.size (by rfl) (heap_new _ _) a n c bs (by rfl) HB2.out.out HNIL.out (by omega) ?_
                 intro a5 c5 w5 hb5 hc5 hw5 hn5 hk5 hown5)
    have HB5 := hid (show Below w1.heap.size w1 w5 from ((Below.refl _ _).alloc (Nat.le_refl _) _).trans (hk5.below (by simp) (Nat.le_refl _)))
    have HW5 := hid (HW1.out.belowO HB5.out)
    have HK5 := hid (HK1.out.trans (SameRow.refl _ _) (KeptR.of_below HB5.out))
    have HQ := hid (Raw_any wb lim n c5 a5 v l bs f w5 HW5.out hb5 hn5 (by omega) (fun ad e h0 => by
      have h9 := (hw5 ad e).1
      have hsz1 := HSZ1.out
      refine ⟨by omega, fun e2 => ?_⟩
      have h8 := HOW.out _ e2
      omega))
    clear hb5 hc5 hw5 hn5 hk5 hown5
    refine HQ.out.mono ?_
    clear HQ
    rintro e w6 ⟨rfl, v2, h2, k2, s2⟩
    have hs15 := HB5.out.size
    have HZ := hid (show Wrote wb lim v (wop lim l f 5 x bs) w w6 from by rw [HR.out]; exact ⟨v2, h2, HK5.out.trans (SameRow.refl _ _) k2, fun q hq => (s2 q hq).imp_right fun h => by have hsz1 := HSZ1.out; omega⟩)
    clear h2 k2 s2
    go_wp2
    go_end0
    exact ⟨rfl, HZ.out⟩
  by_cases h6 : k = 6
  · subst h6
    have HR := hid (show wop lim l f 6 x bs = wtext lim l f bs from rfl)
    have HB2 := hid (hid (HB1.out.alloc (.cells #[] 5)))
    go_enter Tryd.func12, Tryd.ntmps12
    go_upto_region 1 with fail
    change Code.wp _ _ _ _ (w.alloc (.cells #[.int .i64 6, .int .u64 (x : Int), .int .i64 nn, .slice a n c] 33))
    rw [← hw1]
    clear hw1
    go_wp2_with (refine wpList_cloneB (by rfl) (.tmp 44) (.tmp 46) (by rfl) w1.heap.size (by rfl) (heap_new _ _) a n c bs (by rfl) HB2.out.out HNIL.out (by omega) ?_
                 intro a5 c5 w5 hb5 hc5 hw5 hn5 hk5 hown5)
    have HB5 := hid (show Below w1.heap.size w1 w5 from ((Below.refl _ _).alloc (Nat.le_refl _) _).trans (hk5.below (by simp) (Nat.le_refl _)))
    have HW5 := hid (HW1.out.belowO HB5.out)
    have HK5 := hid (HK1.out.trans (SameRow.refl _ _) (KeptR.of_below HB5.out))
    have HQ := hid (Text_any wb lim n c5 a5 v l bs f w5 HW5.out hb5 hn5 (by omega) (fun ad e h0 => by
      have h9 := (hw5 ad e).1
      have hsz1 := HSZ1.out
      refine ⟨by omega, fun e2 => ?_⟩
      have h8 := HOW.out _ e2
      omega))
    clear hb5 hc5 hw5 hn5 hk5 hown5
    refine HQ.out.mono ?_
    clear HQ
    rintro e w6 ⟨rfl, v2, h2, k2, s2⟩
    have hs15 := HB5.out.size
    have HZ := hid (show Wrote wb lim v (wop lim l f 6 x bs) w w6 from by rw [HR.out]; exact ⟨v2, h2, HK5.out.trans (SameRow.refl _ _) k2, fun q hq => (s2 q hq).imp_right fun h => by have hsz1 := HSZ1.out; omega⟩)
    clear h2 k2 s2
    go_wp2
    go_end0
    exact ⟨rfl, HZ.out⟩
  have HR := hid (show wop lim l f k x bs = (l, f) from by unfold wop; rw [if_neg h1, if_neg h2, if_neg h3, if_neg h4, if_neg h5, if_neg h6])
  go_enter Tryd.func12, Tryd.ntmps12
  go_upto_region 1 with fail
  change Code.wp _ _ _ _ (w.alloc (.cells #[.int .i64 k, .int .u64 (x : Int), .int .i64 nn, .slice a n c] 33))
  rw [← hw1]
  clear hw1
  have b1 : (k == 1) = false := by rw [beq_eq_false_iff_ne]; exact h1
  have b2 : (k == 2) = false := by rw [beq_eq_false_iff_ne]; exact h2
  have b3 : (k == 3) = false := by rw [beq_eq_false_iff_ne]; exact h3
  have b4 : (k == 4) = false := by rw [beq_eq_false_iff_ne]; exact h4
  have b5 : (k == 5) = false := by rw [beq_eq_false_iff_ne]; exact h5
  have b6 : (k == 6) = false := by rw [beq_eq_false_iff_ne]; exact h6
  go_wp2
  go_end0
  exact ⟨rfl, by rw [HR.out]; exact ⟨v, HW1.out, HK1.out, SameRow.refl _ _⟩⟩
end Go.Proofs.YtdjnjmekdjcbaaaDoor
