/-
  Reader: NewReader, Rest, Err. · Reader: take. · Reader: number.
-/
import Derived.Test.YtdjnjmekdjcbaaaDoorWrb
import Derived.Test.YtdjnjmekdjcbaaaDoorHww
namespace Go.Proofs.YtdjnjmekdjcbaaaDoor
open Go Go.RowKit
set_option linter.unusedVariables false

/-- a Reader in memory: what is left, the first error -/
structure RdAt (w : World) (rb : Nat) (a : Option Addr) (c : Nat) (l : List Nat) (err : Int) : Prop where
  at_ : w.heap[rb]? = some (.cells #[.slice a l.length c, .int .i64 err] 94 (0, 0))
  bs : Bs w (.slice a l.length c) l
  cap : l.length ≤ c
  nil : a = none → c = 0
  off : ∀ ad, a = some ad → ad.block ≠ rb

set_option maxRecDepth 100000 in
set_option maxHeartbeats 2000000 in
theorem NewReader_any (a : Option Addr) (n c : Nat) (l : List Nat) (w : World) (hb : Bs w (.slice a n c) l) (hnil : a = none → c = 0) (hn : n ≤ 100000000000) :
    Calls Tryd.prog 16 #[.slice a n c] w fun e w' => ∃ rb a' c', e = .returned (.pointer (some ⟨rb, 0, none⟩)) ∧ w.heap.size ≤ rb ∧ RdAt w' rb a' c' l 0 ∧ (∀ ad, a' = some ad → w.heap.size ≤ ad.block) ∧ Below w.heap.size w w' := by
  have hlen := hb.len
  have HC := hid (Clone_any a n c l w hb hnil hn)
  have HL := hid (fun (_ : Unit) => hlen)
  clear hb hnil hlen
  go_enter Tryd.func16, Tryd.ntmps16
  go_wp2_with fail
  refine HC.out.mono ?_
  rintro e w2 ⟨v, rfl, a', c', rfl, hc', hbs, hnil', hfar, hbel⟩
  have HB := hid hbs
  have HN := hid hnil'
  have HFA := hid hfar
  have HBE := hid hbel
  have hsz := hbel.size
  clear hbs hnil' hfar hbel
  go_wp2
  go_ret
  refine ⟨w2.heap.size, a', c', rfl, hsz, ⟨?_, ?_, ?_, HN.out, ?_⟩, fun ad e => (HFA.out ad e).1, HBE.out.alloc hsz _⟩
  · have h := heap_new w2 (.cells #[.slice a' n c', .int .i64 0] 94)
    rw [← HL.out ()]
    exact h
  · rw [← HL.out ()]; exact HB.out.alloc _
  · rw [← HL.out ()]; exact hc'
  · intro ad e h
    have h2 := (HFA.out ad e).2
    omega

theorem RdAt.c {w : World} {rb : Nat} {a : Option Addr} {c : Nat} {l : List Nat} {err : Int} (R : RdAt w rb a c l err) : w.cell? ⟨rb, 0, none⟩ = some (.slice a l.length c) ∧ w.cell? ⟨rb, 1, none⟩ = some (.int .i64 err) := by
  constructor <;> rw [cell_of_heap R.at_] <;> rfl
set_option maxRecDepth 100000 in
theorem Rest_any (rb : Nat) (a : Option Addr) (c : Nat) (l : List Nat) (err : Int) (w : World) (R : RdAt w rb a c l err) :
    Calls Tryd.prog 19 #[.pointer (some ⟨rb, 0, none⟩)] w fun e w' => e = .returned (.int .i64 (l.length : Int)) ∧ w = w' := by
  obtain ⟨c0, c1⟩ := R.c
  clear R
  generalize l.length = m at *
  go_enter Tryd.func19, Tryd.ntmps19
  go_wp2
  go_ret
  exact ⟨rfl, rfl⟩
set_option maxRecDepth 100000 in
theorem Err_any (rb : Nat) (a : Option Addr) (c : Nat) (l : List Nat) (err : Int) (w : World) (R : RdAt w rb a c l err) :
    Calls Tryd.prog 20 #[.pointer (some ⟨rb, 0, none⟩)] w fun e w' => e = .returned (.int .i64 err) ∧ w = w' := by
  obtain ⟨c0, c1⟩ := R.c
  clear R
  generalize l.length = m at *
  go_enter Tryd.func20, Tryd.ntmps20
  go_wp2
  go_ret
  exact ⟨rfl, rfl⟩
end Go.Proofs.YtdjnjmekdjcbaaaDoor

namespace Go.Proofs.YtdjnjmekdjcbaaaDoor
open Go Go.RowKit
set_option linter.unusedVariables false

def rtake (l : List Nat) (err n : Int) : List Nat × List Nat × Int :=
  if err ≠ 0 then ([], l, err) else if n < 0 then ([], l, 2) else if (l.length : Int) < n then ([], l, 4) else (l.take n.toNat, l.drop n.toNat, 0)
/-- what take answers: bytes, and the Reader behind it -/
def Src (a a' : Option Addr) : Prop := ∀ fb, (∀ ad, a = some ad → ad.block ≠ fb) → ∀ ad, a' = some ad → ad.block ≠ fb
theorem Src.refl (a : Option Addr) : Src a a := fun _ h => h
theorem Src.trans {a b c : Option Addr} (h : Src a b) (k : Src b c) : Src a c := fun fb hf => k fb (h fb hf)
def TakeRes (w : World) (rb : Nat) (a : Option Addr) (l : List Nat) (err n : Int) (e : Ending) (w' : World) : Prop :=
  ∃ ao co a' c', e = .returned (.slice ao (rtake l err n).1.length co) ∧ Bs w' (.slice ao (rtake l err n).1.length co) (rtake l err n).1 ∧ (rtake l err n).1.length ≤ co ∧ (ao = none → co = 0) ∧ (∀ ad, ao = some ad → ad.block ≠ rb) ∧
    RdAt w' rb a' c' (rtake l err n).2.1 (rtake l err n).2.2 ∧ Kept rb w w' ∧ Src a a'
theorem RdAt.set_err {w : World} {rb : Nat} {a : Option Addr} {c : Nat} {l : List Nat} {err : Int} (R : RdAt w rb a c l err) (x : Int) : RdAt (w.setCell ⟨rb, 1, none⟩ (.int .i64 x)) rb a c l x := by
  refine ⟨?_, R.bs.kept ((Kept.refl rb w).setCell (p := ⟨rb, 1, none⟩) rfl _) ?_, R.cap, R.nil, R.off⟩
  · have h := heap_setCell_same w rb 1 _ _ (.int .i64 x) R.at_
    simpa using h
  · cases a with
    | none => trivial
    | some ad => exact R.off ad rfl

theorem off_of {a : Option Addr} {n c rb : Nat} (h : Off rb (.slice a n c)) : ∀ ad, a = some ad → ad.block ≠ rb := fun ad e => by
  subst e
  exact h
theorem off_to {a : Option Addr} {n c rb : Nat} (h : ∀ ad, a = some ad → ad.block ≠ rb) : Off rb (.slice a n c) := by
  cases a with
  | none => trivial
  | some ad => exact h ad rfl
theorem add_block (ad : Addr) (k : Nat) : (ad.add k).block = ad.block := by
  unfold Addr.add
  split <;> rfl
/-- what follows the first k bytes, of no bytes too -/
theorem bs_from0 {w : World} {a : Option Addr} {n c : Nat} {l : List Nat} (h : Bs w (.slice a n c) l) (hc : n ≤ c) (hnil : a = none → c = 0) (k : Nat) (hk : k ≤ n) :
    ∃ a' c', (∀ w', (Instr.sliceAt 27 (.slice a n c) (some (.int .i64 (k : Int))) none none).run Tryd.prog w' = .ok (.slice a' (n - k) c') w') ∧ Bs w (.slice a' (n - k) c') (l.drop k) ∧ n - k ≤ c' ∧ (a' = none → c' = 0) ∧ (∀ fb, Off fb (.slice a n c) → Off fb (.slice a' (n - k) c')) := by
  by_cases h1 : 1 ≤ n
  · exact bs_from h h1 hc k hk
  · obtain rfl : n = 0 := by omega
    obtain rfl : k = 0 := by omega
    have hl : l = [] := List.length_eq_zero_iff.1 h.len.symm
    subst hl
    cases a with
    | none =>
      obtain rfl := hnil rfl
      exact ⟨none, 0, fun w' => by simp [go_sem, Tryd.underlying27], bs_nilH _ _ _, Nat.le_refl _, fun _ => rfl, fun _ _ => trivial⟩
    | some ad =>
      by_cases e : c = 0
      · subst e
        exact ⟨some ad, 0, fun w' => by simp [go_sem, Tryd.underlying27], bs_nilH _ _ _, Nat.le_refl _, (fun h => by cases h), fun fb hf => hf⟩
      · exact ⟨some (ad.add 0), c, fun w' => by simp [go_sem, Tryd.underlying27, e], bs_nilH _ _ _, Nat.zero_le _, (fun h => by cases h), fun fb hf => (by show (ad.add 0).block ≠ fb; rw [add_block]; exact hf)⟩
/-- the first k bytes -/
theorem bs_upto {w : World} {a : Option Addr} {n c : Nat} {l : List Nat} (h : Bs w (.slice a n c) l) (k : Nat) (hk : k ≤ n) : Bs w (.slice a k c) (l.take k) := by
  have hlen := h.len
  have hlt := h.lt
  obtain ⟨a', c', h1, h2, h3⟩ := h
  simp only [Value.slice.injEq] at h1
  obtain ⟨rfl, h11, rfl⟩ := h1
  refine ⟨_, _, by rw [List.length_take, Nat.min_eq_left (by omega)], fun x hx => h2 x (List.mem_of_mem_take hx), fun hne => ?_⟩
  have hne2 : l ≠ [] := fun e => hne (by rw [e]; simp)
  obtain ⟨b, o, ha, hcell⟩ := h3 hne2
  refine ⟨b, o, ha, fun i hi => ?_⟩
  rw [List.length_take] at hi
  rw [hcell i (by omega), List.getD_eq_getElem?_getD, List.getD_eq_getElem?_getD, List.getElem?_take, if_pos (by omega)]

set_option maxRecDepth 100000 in
set_option maxHeartbeats 4000000 in
theorem take_any (rb : Nat) (a : Option Addr) (c : Nat) (l : List Nat) (err n : Int) (w : World) (R : RdAt w rb a c l err) :
    Calls Tryd.prog 74 #[.pointer (some ⟨rb, 0, none⟩), .int .i64 n] w fun e w' => TakeRes w rb a l err n e w' := by
  obtain ⟨c0, c1⟩ := R.c
  have f0 := free_of_heap R.at_ 0
  have f1 := free_of_heap R.at_ 1
  have HR := hid R
  by_cases he : err = 0
  case neg =>
    have HT := hid (show rtake l err n = ([], l, err) from by unfold rtake; rw [if_pos he])
    clear R
    generalize l.length = m at *
    go_enter Tryd.func74, Tryd.ntmps74
    go_wp2
    go_ret
    refine ⟨none, 0, a, c, ?_⟩
    rw [HT.out]
    exact ⟨rfl, bs_nilH _ _ _, Nat.le_refl _, fun _ => rfl, (fun ad h => by cases h), HR.out, Kept.refl _ _, Src.refl _⟩
  subst he
  by_cases hn : n < 0
  · have HT := hid (show rtake l 0 n = ([], l, 2) from by unfold rtake; rw [if_neg (by simp), if_pos hn])
    clear R
    generalize l.length = m at *
    go_enter Tryd.func74, Tryd.ntmps74
    go_wp2
    go_ret
    refine ⟨none, 0, a, c, ?_⟩
    rw [HT.out]
    exact ⟨rfl, bs_nilH _ _ _, Nat.le_refl _, fun _ => rfl, (fun ad h => by cases h), HR.out.set_err 2, (Kept.refl rb w).setCell (p := ⟨rb, 1, none⟩) rfl _, Src.refl _⟩
  by_cases hb : (l.length : Int) < n
  · have HT := hid (show rtake l 0 n = ([], l, 4) from by unfold rtake; rw [if_neg (by simp), if_neg hn, if_pos hb])
    clear R
    generalize l.length = m at *
    go_enter Tryd.func74, Tryd.ntmps74
    go_wp2
    go_ret
    refine ⟨none, 0, a, c, ?_⟩
    rw [HT.out]
    exact ⟨rfl, bs_nilH _ _ _, Nat.le_refl _, fun _ => rfl, (fun ad h => by cases h), HR.out.set_err 4, (Kept.refl rb w).setCell (p := ⟨rb, 1, none⟩) rfl _, Src.refl _⟩
  obtain ⟨k, rfl⟩ : ∃ k : Nat, n = (k : Int) := ⟨n.toNat, by omega⟩
  have hk : k ≤ l.length := by omega
  have HT := hid (show rtake l 0 (k : Int) = (l.take k, l.drop k, 0) from by unfold rtake; rw [if_neg (by simp), if_neg hn, if_neg hb, Int.toNat_natCast])
  obtain ⟨a', c', y2, hbs2, hc2, hnil2, hoff2⟩ := bs_from0 R.bs R.cap R.nil k hk
  have y1 : ∀ w', (Instr.sliceAt 27 (.slice a l.length c) none (some (.int .i64 (k : Int))) none).run Tryd.prog w' = .ok (.slice a k c) w' := by
    intro w'
    have h1 := R.cap
    have u1 : (k : Int) ≤ (c : Int) := by omega
    have u2 : (0 : Int) ≤ (k : Int) := by omega
    cases a <;> simp [go_sem, Tryd.underlying27, u1, u2]
  have hkc : k ≤ c := Nat.le_trans hk R.cap
  have HB1 := hid (bs_upto R.bs k hk)
  have HB2 := hid hbs2
  have HL1 := hid (show (l.take k).length = k from by rw [List.length_take, Nat.min_eq_left hk])
  have HL2 := hid (show (l.drop k).length = l.length - k from List.length_drop)
  have HO := hid (off_of (hoff2 rb (off_to R.off)))
  have HN2 := hid hnil2
  have HSRC := hid (show Src a a' from fun fb h => off_of (hoff2 fb (off_to h)))
  have HSET := hid (show ((w.setCell ⟨rb, 0, none⟩ (.slice a' (l.length - k) c')).heap[rb]? = some (.cells #[.slice a' (l.length - k) c', .int .i64 0] 94 (0, 0))) from by
    have h := heap_setCell_same w rb 0 _ _ (.slice a' (l.length - k) c') R.at_
    simpa using h)
  have HK := hid ((Kept.refl rb w).setCell (p := ⟨rb, 0, none⟩) rfl (.slice a' (l.length - k) c'))
  have HOF := hid R.off
  have HNI := hid R.nil
  clear R hbs2 hnil2 hoff2
  generalize l.length = m at *
  generalize hr : m - k = r at *
  clear hr
  go_enter Tryd.func74, Tryd.ntmps74
  go_wp2
  go_ret
  refine ⟨a, c, a', c', ?_⟩
  rw [HT.out]
  refine ⟨by rw [HL1.out]; rfl, ?_, by rw [HL1.out]; exact hkc, HNI.out, HOF.out, ⟨?_, ?_, ?_, HN2.out, HO.out⟩, HK.out, HSRC.out⟩
  · rw [HL1.out]; exact HB1.out.kept HK.out (off_to HOF.out)
  · rw [HL2.out]; exact HSET.out
  · rw [HL2.out]; exact HB2.out.kept HK.out (off_to HO.out)
  · rw [HL2.out]; exact hc2
end Go.Proofs.YtdjnjmekdjcbaaaDoor

namespace Go.Proofs.YtdjnjmekdjcbaaaDoor
open Go Go.RowKit
set_option linter.unusedVariables false

/-- the number that the first i bytes write -/
def beV (l : List Nat) : Nat → Nat | 0 => 0 | i + 1 => beV l i * 256 + l.getD i 0
theorem beV_lt (l : List Nat) (h : ∀ i, l.getD i 0 < 256) : ∀ i, beV l i < 256 ^ i
  | 0 => by simp [beV]
  | i + 1 => by
    have h1 := beV_lt l h i
    have h2 := h i
    show beV l i * 256 + l.getD i 0 < 256 ^ (i + 1)
    rw [Nat.pow_succ]
    omega
theorem or_add (a b : Nat) (h : b < 256) : a * 256 ||| b = a * 256 + b := by
  have h1 := Nat.shiftLeft_add_eq_or_of_lt (i := 8) (b := b) (by omega) a
  rw [Nat.shiftLeft_eq] at h1
  exact h1.symm
def NumRes (w : World) (rb : Nat) (a : Option Addr) (l : List Nat) (err n : Int) (e : Ending) (w' : World) : Prop :=
  ∃ a' c', e = .returned (.int .u64 ((beV (rtake l err n).1 (rtake l err n).1.length : Nat) : Int)) ∧ RdAt w' rb a' c' (rtake l err n).2.1 (rtake l err n).2.2 ∧ Kept rb w w' ∧ Src a a'

set_option maxRecDepth 100000 in
set_option maxHeartbeats 4000000 in
theorem number_rd (rb : Nat) (a : Option Addr) (c : Nat) (l : List Nat) (err n : Int) (w : World) (R : RdAt w rb a c l err) (hn : n ≤ 8) :
    Calls Tryd.prog 73 #[.pointer (some ⟨rb, 0, none⟩), .int .i64 n] w fun e w' => NumRes w rb a l err n e w' := by
  have HT := hid (take_any rb a c l err n w R)
  have hlen8 : (rtake l err n).1.length ≤ 8 := by
    unfold rtake
    split
    · simp
    · split
      · simp
      · split
        · simp
        · simp only [List.length_take]; omega
  clear R
  go_enter Tryd.func73, Tryd.ntmps73
  go_wp2_with fail
  refine HT.out.mono ?_
  clear HT
  rintro e w2 ⟨ao, co, a', c', rfl, hb, hco, hnil, hoff, hR, hK, hSR⟩
  have HRES := hid (fun (e : Ending) (w' : World) (h : e = .returned (.int .u64 ((beV (rtake l err n).1 (rtake l err n).1.length : Nat) : Int)) ∧ w' = w2) => (show NumRes w rb a l err n e w' from ⟨a', c', h.1, h.2 ▸ hR, h.2 ▸ hK, hSR⟩))
  clear hR hK hSR hoff hnil
  generalize (rtake l err n).1 = out at *
  have HB := hid hb
  have HLT := hid hb.lt
  have hbv := beV_lt out hb.lt
  have HBV := hid hbv
  clear hb hbv
  obtain ⟨m, hm⟩ : ∃ m, m = out.length := ⟨_, rfl⟩
  rw [← hm] at HB hco hlen8 HRES ⊢
  have HM := hid (fun (_ : Unit) => hm)
  clear hm
  go_wp2
  go_loop [5, 12] (fun vv iv => ∃ i : Nat, i ≤ m ∧ iv = .int .i64 i ∧ vv = .int .u64 ((beV out i : Nat) : Int)) (fun _ iv => m - (intOf iv).toNat)
  case atStart => exact ⟨0, by omega, rfl, rfl⟩
  case round =>
    obtain ⟨i, hi, rfl, rfl⟩ := hrel
    by_cases him : i < m
    · have hI : (i : Int) < (m : Int) := by omega
      obtain ⟨b, o, rfl⟩ : ∃ b o, ao = some ⟨b, o, none⟩ := by
        rcases HB.out.addr with ⟨h1, _⟩ | ⟨_, b, o, c', hv⟩
        · have := HM.out (); rw [h1] at this; simp at this; omega
        · simp only [Value.slice.injEq] at hv
          exact ⟨b, o, hv.1⟩
      have c1 := HB.out.cell i (by rw [← HM.out ()]; exact him)
      have hyl := HLT.out i
      have hvl : beV out i < 72057594037927936 := Nat.lt_of_lt_of_le (HBV.out i) (by
        have : (256 : Nat) ^ i ≤ 256 ^ 7 := Nat.pow_le_pow_right (by decide) (by omega)
        simpa using this)
      have HST := hid (fun (_ : Unit) => (show beV out (i + 1) = beV out i * 256 + out.getD i 0 from rfl))
      generalize beV out i = v at *
      generalize out.getD i 0 = y at *
      have t1 : IntKind.u64.wrap ((v : Int) * 256) = ((v * 256 : Nat) : Int) := by rw [IntKind.wrap_u64]; omega
      have t2 : IntKind.u64.wrap (y : Int) = (y : Int) := by rw [IntKind.wrap_u64]; omega
      have t3 : bits .or .u64 ((v : Int) * 256) (y : Int) = ((v * 256 + y : Nat) : Int) := by
        have h := u64_or_nat (v * 256) y (by omega) (by omega)
        rw [or_add v y hyl] at h
        exact h
      generalize v * 256 + y = z at *
      go_wp2
      exact ⟨⟨i + 1, by omega, by go_num, by rw [HST.out ()]⟩, by simp [intOf]; omega⟩
    · obtain rfl : i = m := by omega
      go_wp2
      go_ret
      exact HRES.out _ _ ⟨rfl, rfl⟩
end Go.Proofs.YtdjnjmekdjcbaaaDoor
