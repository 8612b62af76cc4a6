/-
  Merge: the Joins of two tables.
-/
import Derived.Test.YtbdefmjjhkonjaaCln
import Derived.Test.YtbdefmjjhkonjaaCls
namespace Go.Proofs.Ytbdefmjjhkonjaa
open Go Go.RowKit
set_option linter.unusedVariables false

/-- the Joins of two tables, of the first k entries -/
def mrg (A B : List Ent) (k : Nat) : List Ent := (List.range k).map fun i => jn (gd A i) (gd B i)
theorem mrg_length (A B : List Ent) (k : Nat) : (mrg A B k).length = k := by simp [mrg]
theorem mrg_succ (A B : List Ent) (k : Nat) : mrg A B (k + 1) = mrg A B k ++ [jn (gd A k) (gd B k)] := by simp [mrg, List.range_succ]
/-- .. while the row is filled -/
def mrgTo (A B : List Ent) (n k : Nat) : List Ent := mrg A B k ++ List.replicate (n - k) (0, 0)
theorem mrgTo_length (A B : List Ent) (n k : Nat) (h : k ≤ n) : (mrgTo A B n k).length = n := by simp [mrgTo, mrg_length]; omega
theorem mrgTo_zero (A B : List Ent) (n : Nat) : mrgTo A B n 0 = List.replicate n (0, 0) := by simp [mrgTo, mrg]
theorem mrgTo_all (A B : List Ent) (n : Nat) : mrgTo A B n n = mrg A B n := by simp [mrgTo]
theorem mrgTo_set (A B : List Ent) (n k : Nat) (h : k < n) : (mrgTo A B n k).set k (jn (gd A k) (gd B k)) = mrgTo A B n (k + 1) := by
  unfold mrgTo
  rw [List.set_append_right _ _ (by rw [mrg_length]; exact Nat.le_refl _), mrg_length, Nat.sub_self, mrg_succ, List.append_assoc, show n - k = (n - (k + 1)) + 1 from by omega, List.replicate_succ]
  rfl
def mErr (A B : List Ent) : Int := if (vld A && vld B) = true then (if A.length = B.length then 0 else 10) else 2
def mTab (A B : List Ent) : List Ent := if (vld A && vld B) = true ∧ A.length = B.length then mrg A B A.length else []
theorem row_owns {w : World} {b base n : Nat} {L : List Ent} (h : Row w b L) (hb : base ≤ b) (hn : L.length = n) (hm : n ≤ 100000) : w.ownsRow base 36 2 (.slice (some ⟨b, 0, none⟩) n n) n (ecl L) :=
  ⟨by rw [ecl_length]; omega, .inr ⟨b, n, _, rfl, hb, h, Nat.le_refl _, by unfold maxLen; omega, by simp [ecl_length]; omega, by rw [List.take_of_length_le (by simp [ecl_length]; omega)]⟩⟩

set_option maxRecDepth 100000 in
set_option maxHeartbeats 2000000 in
theorem Merge_any (a1 : Option Addr) (n1 c1 : Nat) (A : List Ent) (a2 : Option Addr) (n2 c2 : Nat) (B : List Ent) (w : World) (ht1 : Tb w (.slice a1 n1 c1) A) (ht2 : Tb w (.slice a2 n2 c2) B) (h1 : n1 ≤ 100000) (h2 : n2 ≤ 100000) :
    Calls Try.prog 19 #[.slice a1 n1 c1, .slice a2 n2 c2] w fun e w' => ∃ v, e = .returned (.tuple #[v, .int .i64 (mErr A B)]) ∧ w'.ownsRow w.heap.size 36 2 v (mTab A B).length (ecl (mTab A B)) ∧ Below w.heap.size w w' := by
  have HN1 := hid ht1.len
  have HN2 := hid ht2.len
  have HT1 := hid ht1
  have HT2 := hid ht2
  have HV1 := hid (Valid_any a1 n1 c1 A w ht1 (by omega))
  have HV2 := hid (fun (wx : World) (hx : Tb wx (.slice a2 n2 c2) B) => Valid_any a2 n2 c2 B wx hx (by omega))
  clear ht1 ht2
  cases hv1 : vld A with
  | false =>
    have HE := hid (show mErr A B = 2 ∧ mTab A B = [] by simp [mErr, mTab, hv1])
    rw [hv1] at HV1
    clear hv1
    go_enter Try.func19, Try.ntmps19
    go_wp2_with fail
    refine HV1.out.mono ?_
    rintro e w1 ⟨rfl, hb1⟩
    have HB1 := hid hb1
    clear hb1 HV1
    go_wp2
    go_ret2
    rw [HE.out.1, HE.out.2]
    exact ⟨_, rfl, owns_nil _ _ _ _, HB1.out⟩
  | true =>
    rw [hv1] at HV1
    cases hv2 : vld B with
    | false =>
      have HE := hid (show mErr A B = 2 ∧ mTab A B = [] by simp [mErr, mTab, hv1, hv2])
      rw [hv2] at HV2
      clear hv1 hv2
      go_enter Try.func19, Try.ntmps19
      go_wp2_with fail
      refine HV1.out.mono ?_
      rintro e w1 ⟨rfl, hb1⟩
      have HB1 := hid hb1
      clear hb1 HV1
      go_wp2_with fail
      refine (HV2.out _ (HT2.out.below HB1.out)).mono ?_
      rintro e w2 ⟨rfl, hb2⟩
      have HB2 := hid (HB1.out.trans (hb2.mono HB1.out.size))
      clear hb2
      go_wp2
      go_ret2
      rw [HE.out.1, HE.out.2]
      exact ⟨_, rfl, owns_nil _ _ _ _, HB2.out⟩
    | true =>
      rw [hv2] at HV2
      by_cases hne : n1 = n2
      · have hl : A.length = B.length := by have := HN1.out; have := HN2.out; omega
        have HE := hid (show mErr A B = 0 ∧ mTab A B = mrg A B n1 by simp [mErr, mTab, hv1, hv2, hl, HN1.out])
        have HNN := hid hne
        have e0 : ((n1 : Int) != n2) = false := by simp [hne]
        have hmk := mk_e n1 (by omega)
        clear hv1 hv2 hne hl
        go_enter Try.func19, Try.ntmps19
        go_wp2_with fail
        refine HV1.out.mono ?_
        rintro e w1 ⟨rfl, hb1⟩
        have HB1 := hid hb1
        clear hb1 HV1
        go_wp2_with fail
        refine (HV2.out _ (HT2.out.below HB1.out)).mono ?_
        rintro e w2 ⟨rfl, hb2⟩
        have HB2 := hid (HB1.out.trans (hb2.mono HB1.out.size))
        clear hb2 HV2 HB1
        go_upto_region 6 with fail
        have HB3 := hid (HB2.out.alloc HB2.out.size (erow n1))
        have HR3 := hid (show Row (w2.alloc (erow n1)) w2.heap.size (mrgTo A B n1 0) from by rw [mrgTo_zero]; exact heap_new _ _)
        have hg := HB2.out.size
        obtain ⟨g, hgg⟩ : ∃ g, g = w2.heap.size := ⟨_, rfl⟩
        rw [← hgg] at HR3 hg ⊢
        obtain ⟨w3, hw3⟩ : ∃ y, y = w2.alloc (erow n1) := ⟨_, rfl⟩
        rw [← hw3] at HB3 HR3 ⊢
        clear hw3 hgg HB2 hmk
        go_wp2
        go_loopw [7, 26] (fun _ iv wr => ∃ i : Nat, i ≤ n1 ∧ iv = .int .i64 i ∧ Hid (Row wr g (mrgTo A B n1 i)) ∧ Hid (Below w.heap.size w wr)) (fun _ iv _ => n1 - (intOf iv).toNat)
        case atStart => exact ⟨0, by omega, rfl, HR3, HB3⟩
        case round =>
          clear HR3 HB3
          obtain ⟨i, hi, rfl, HR, HB⟩ := hrel
          by_cases hlt : i < n1
          · obtain ⟨b1, o1, rfl, hb1⟩ := HT1.out.addr (by omega)
            obtain ⟨b2, o2, rfl, hb2⟩ := HT2.out.addr (by rw [← HNN.out]; omega)
            have hlt2 : i < n2 := HNN.out ▸ hlt
            have q01 : ∀ p : Cls (fun w' => Below wr.heap.size wr w'), p.w.cell? ⟨b1, o1 + i * 2, none⟩ = some (.int .u64 (gd A i).1) ∧ p.w.cell? ⟨b1, o1 + i * 2 + 1, none⟩ = some (.int .u8 (gd A i).2) := fun p => (HT1.out.below (HB.out.trans (p.h.mono HB.out.size))).cells i hlt
            have r01 : ∀ p : Cls (fun w' => Below wr.heap.size wr w'), p.w.cell? ⟨b2, o2 + i * 2, none⟩ = some (.int .u64 (gd B i).1) ∧ p.w.cell? ⟨b2, o2 + i * 2 + 1, none⟩ = some (.int .u8 (gd B i).2) := fun p => (HT2.out.below (HB.out.trans (p.h.mono HB.out.size))).cells i hlt2
            have HJ := hid (fun wx => Join_any (gd A i).1 (gd A i).2 (gd B i).1 (gd B i).2 wx)
            have HST := hid (mrgTo_set A B n1 i hlt)
            obtain ⟨jx, hjx⟩ : ∃ y, y = (jn (gd A i) (gd B i)).1 := ⟨_, rfl⟩
            obtain ⟨js, hjs⟩ : ∃ y, y = (jn (gd A i) (gd B i)).2 := ⟨_, rfl⟩
            rw [show jn ((gd A i).1, (gd A i).2) ((gd B i).1, (gd B i).2) = jn (gd A i) (gd B i) from rfl, ← hjx, ← hjs] at HJ
            rw [show jn (gd A i) (gd B i) = (jx, js) from by rw [hjx, hjs]] at HST
            clear hjx hjs
            generalize (gd A i).1 = x1 at *
            generalize (gd A i).2 = s1 at *
            generalize (gd B i).1 = x2 at *
            generalize (gd B i).2 = s2 at *
            have q0 := fun p => (q01 p).1
            have q1 := fun p => (q01 p).2
            have r0 := fun p => (r01 p).1
            have r1 := fun p => (r01 p).2
            clear q01 r01
            have hnem : Nonempty (Cls fun w' => Below wr.heap.size wr w') := ⟨⟨wr, Below.refl _ _⟩⟩
            have hgl := HR.out.lt
            go_upto_region 9 with fail
            refine region_class_tail (G := fun w' => Below wr.heap.size wr w') 11 (by kernel_rfl) (by kernel_rfl) (bel_drewN (Below.refl _ _) 1) ?_
            simp only [List.take_succ_cons, List.take_zero, List.drop_succ_cons, List.drop_zero]
            repeat (go_big_quiet_step ((go_at_call 28; exact Calls.cls (HJ.out _))))
            refine wpQuiet_nil ?_
            rintro ⟨wp, hwp⟩
            have HRp := hid (HR.out.keep (hwp.block _ hgl))
            have HBp := hid (HB.out.trans (hwp.mono HB.out.size))
            have hln := mrgTo_length A B n1 i (by omega)
            obtain ⟨m0, m1⟩ := HRp.out.cells i (by omega)
            have f0 := HRp.out.free (i * 2)
            have f1 := HRp.out.free (i * 2 + 1)
            have HR2 := hid (HRp.out.set i (jx, js))
            rw [HST.out] at HR2
            have HB2 := hid ((HBp.out.setCell (p := ⟨g, i * 2, none⟩) hg (.int .u64 jx)).setCell (p := ⟨g, i * 2 + 1, none⟩) hg (.int .u8 js))
            clear hln
            generalize (gd (mrgTo A B n1 i) i).1 = z1 at *
            generalize (gd (mrgTo A B n1 i) i).2 = z2 at *
            go_wp2
            exact ⟨⟨i + 1, by omega, by go_num, HR2, HB2⟩, by simp [intOf]; omega⟩
          · obtain rfl : i = n1 := by omega
            have HR2 := hid (show Row wr g (mrg A B i) from by rw [← mrgTo_all]; exact HR.out)
            go_wp2
            go_ret2
            rw [HE.out.1, HE.out.2, mrg_length]
            exact ⟨_, rfl, row_owns HR2.out hg (mrg_length _ _ _) h1, HB.out⟩
      · have hl : A.length ≠ B.length := by have := HN1.out; have := HN2.out; omega
        have HE := hid (show mErr A B = 10 ∧ mTab A B = [] by simp [mErr, mTab, hv1, hv2, hl])
        have e0 : ((n1 : Int) != n2) = true := by simp; omega
        clear hv1 hv2 hl hne
        go_enter Try.func19, Try.ntmps19
        go_wp2_with fail
        refine HV1.out.mono ?_
        rintro e w1 ⟨rfl, hb1⟩
        have HB1 := hid hb1
        clear hb1 HV1
        go_wp2_with fail
        refine (HV2.out _ (HT2.out.below HB1.out)).mono ?_
        rintro e w2 ⟨rfl, hb2⟩
        have HB2 := hid (HB1.out.trans (hb2.mono HB1.out.size))
        clear hb2
        go_wp2
        go_ret2
        rw [HE.out.1, HE.out.2]
        exact ⟨_, rfl, owns_nil _ _ _ _, HB2.out⟩
end Go.Proofs.Ytbdefmjjhkonjaa
