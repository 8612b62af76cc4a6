/-
  The reference's reading: width, Value, End. · The reference's Read. · The reference's Read: a number. · The reference's Read: bytes. · The reference's Read: a text. · The reference's Read: every call.
-/
import Derived.Test.YtdjnjmekdjcbaaaDoorRdo
import Derived.Test.YtdjnjmekdjcbaaaDoorRdK
import Derived.BigRegion
import Derived.Deep.RegionWith
import Derived.Deep.RegionHeld3
namespace Go.Proofs.YtdjnjmekdjcbaaaDoor
open Go Go.RowKit
set_option linter.unusedVariables false

def wdt (k : Int) : Int := if k = 1 then 1 else if k = 2 then 2 else if k = 3 then 4 else if k = 4 then 8 else 0
theorem width_any (k : Int) (w : World) : Calls Tryd.prog 49 #[.int .i64 k] w fun e w' => e = .returned (.int .i64 (wdt k)) ∧ w = w' := by
  by_cases h1 : 1 ≤ k
  case neg =>
    have HE := hid (show wdt k = 0 from by unfold wdt; rw [if_neg (by omega), if_neg (by omega), if_neg (by omega), if_neg (by omega)])
    go_enter Tryd.func49, Tryd.ntmps49
    go_wp2
    go_ret
    exact ⟨by rw [HE.out]; rfl, rfl⟩
  by_cases h4 : k ≤ 4
  case neg =>
    have HE := hid (show wdt k = 0 from by unfold wdt; rw [if_neg (by omega), if_neg (by omega), if_neg (by omega), if_neg (by omega)])
    go_enter Tryd.func49, Tryd.ntmps49
    go_wp2
    go_ret
    exact ⟨by rw [HE.out]; rfl, rfl⟩
  obtain rfl | rfl | rfl | rfl : k = 1 ∨ k = 2 ∨ k = 3 ∨ k = 4 := by omega
  all_goals
    clear h1 h4
    go_enter Tryd.func49, Tryd.ntmps49
    go_wp2
    go_ret
    exact ⟨by rfl, rfl⟩

set_option maxRecDepth 100000 in
set_option maxHeartbeats 4000000 in
theorem value_any8 (a : Option Addr) (m c : Nat) (l : List Nat) (w : World) (hb : Bs w (.slice a m c) l) (h8 : m ≤ 8) : Calls Tryd.prog 58 #[.slice a m c] w fun e w' => e = .returned (.int .u64 ((beV l l.length : Nat) : Int)) ∧ w = w' := by
  have hm := hb.len
  have HB := hid hb
  have HLT := hid hb.lt
  have HBV := hid (beV_lt l hb.lt)
  have HM := hid (fun (_ : Unit) => hm)
  rw [← hm]
  clear hm hb
  go_enter Tryd.func58, Tryd.ntmps58
  go_wp2
  go_loop [3, 4] (fun vv iv => ∃ i : Nat, i ≤ m ∧ iv = .int .i64 i ∧ vv = .int .u64 ((beV l i : Nat) : Int)) (fun _ iv => m - (intOf iv).toNat)
  case atStart => exact ⟨0, by omega, rfl, rfl⟩
  case round =>
    obtain ⟨i, hi, rfl, rfl⟩ := hrel
    by_cases him : i < m
    · have hI : (i : Int) < (m : Int) := by omega
      obtain ⟨b, o, rfl⟩ : ∃ b o, a = some ⟨b, o, none⟩ := by
        rcases HB.out.addr with ⟨h1, _⟩ | ⟨_, b, o, c', hv⟩
        · have := HM.out (); rw [h1] at this; simp at this; omega
        · simp only [Value.slice.injEq] at hv
          exact ⟨b, o, hv.1⟩
      have c1 := HB.out.cell i (by rw [← HM.out ()]; exact him)
      have hyl := HLT.out i
      have hvl : beV l i < 72057594037927936 := Nat.lt_of_lt_of_le (HBV.out i) (by
        have : (256 : Nat) ^ i ≤ 256 ^ 7 := Nat.pow_le_pow_right (by decide) (by omega)
        simpa using this)
      have HST := hid (fun (_ : Unit) => (show beV l (i + 1) = beV l i * 256 + l.getD i 0 from rfl))
      generalize beV l i = v at *
      generalize l.getD i 0 = y at *
      have t1 : IntKind.u64.wrap ((v : Int) * 256) = ((v * 256 : Nat) : Int) := by rw [IntKind.wrap_u64]; omega
      have t2 : IntKind.u64.wrap (y : Int) = (y : Int) := by rw [IntKind.wrap_u64]; omega
      have t3 : bits .or .u64 ((v : Int) * 256) (y : Int) = ((v * 256 + y : Nat) : Int) := by
        have h := u64_or_nat (v * 256) y (by omega) (by omega)
        rw [or_add v y hyl] at h
        exact h
      generalize v * 256 + y = z at *
      go_wp2
      exact ⟨⟨i + 1, by omega, by go_num, by rw [HST.out ()]⟩, by simp [intOf]; omega⟩
    · obtain rfl : i = m := by omega
      go_wp2
      go_ret
      exact ⟨rfl, rfl⟩

/-- what is left, and the error, as a value -/
def inV (a : Option Addr) (n c : Nat) (err : Int) : Value := .agg #[.slice a n c, .int .i64 err]
theorem end_any (a : Option Addr) (n c : Nat) (err : Int) (w : World) : Calls Tryd.prog 22 #[inV a n c err] w fun e w' => e = .returned (.int .i64 (if err = 0 ∧ 0 < n then 5 else err)) ∧ Below w.heap.size w w' := by
  unfold inV
  by_cases h0 : err = 0
  · subst h0
    by_cases hn : 0 < n
    · have hI : (0 : Int) < (n : Int) := by omega
      rw [if_pos ⟨rfl, hn⟩]
      go_enter Tryd.func22, Tryd.ntmps22
      go_wp2
      go_ret
      exact ⟨rfl, (Below.refl _ _).alloc (Nat.le_refl _) _⟩
    · obtain rfl : n = 0 := by omega
      rw [if_neg (fun h => hn h.2)]
      go_enter Tryd.func22, Tryd.ntmps22
      go_wp2
      go_ret
      exact ⟨rfl, (Below.refl _ _).alloc (Nat.le_refl _) _⟩
  · have hE : (err == 0) = false := by simpa using h0
    rw [if_neg (fun h => h0 h.1)]
    go_enter Tryd.func22, Tryd.ntmps22
    go_wp2
    go_ret
    exact ⟨rfl, (Below.refl _ _).alloc (Nat.le_refl _) _⟩
end Go.Proofs.YtdjnjmekdjcbaaaDoor

namespace Go.Proofs.YtdjnjmekdjcbaaaDoor
open Go Go.RowKit
set_option linter.unusedVariables false

/-- what Read lays ahead: its arguments and its result -/
structure RqAt (w w1 : World) (a : Option Addr) (m c : Nat) (err k x nn : Int) : Prop where
  bel : Below w.heap.size w w1
  s0 : w1.cell? ⟨w.heap.size, 0, none⟩ = some (.slice a m c)
  s1 : w1.cell? ⟨w.heap.size, 1, none⟩ = some (.int .i64 err)
  o0 : w1.cell? ⟨w.heap.size + 1, 0, none⟩ = some (.int .i64 k)
  o2 : w1.cell? ⟨w.heap.size + 1, 2, none⟩ = some (.int .i64 nn)
  rr : w1.heap[w.heap.size + 1 + 1]? = some (.cells #[.slice none 0 0, .int .i64 0] 43 (0, 0))
  r0 : w1.cell? ⟨w.heap.size + 1 + 1, 0, none⟩ = some (.slice none 0 0)
  r1 : w1.cell? ⟨w.heap.size + 1 + 1, 1, none⟩ = some (.int .i64 0)
  f0 : w1.frozen? ⟨w.heap.size + 1 + 1, 0, none⟩ = false
  f1 : w1.frozen? ⟨w.heap.size + 1 + 1, 1, none⟩ = false
  siz : w1.heap.size = w.heap.size + 1 + 1 + 1
theorem rq_at (w : World) (a ao : Option Addr) (m c n cr : Nat) (err k x nn : Int) : RqAt w (((w.alloc (.cells #[.slice a m c, .int .i64 err] 43)).alloc (.cells #[.int .i64 k, .int .u64 x, .int .i64 nn, .slice ao n cr] 33)).alloc (.cells #[.slice none 0 0, .int .i64 0] 43)) a m c err k x nn := by
  obtain ⟨wa, hwa⟩ : ∃ q, q = w.alloc (.cells #[.slice a m c, .int .i64 err] 43) := ⟨_, rfl⟩
  obtain ⟨wb, hwb⟩ : ∃ q, q = wa.alloc (.cells #[.int .i64 k, .int .u64 x, .int .i64 nn, .slice ao n cr] 33) := ⟨_, rfl⟩
  rw [← hwa, ← hwb]
  have ha : wa.heap.size = w.heap.size + 1 := by rw [hwa]; simp
  have hb : wb.heap.size = w.heap.size + 1 + 1 := by rw [hwb]; simp [ha]
  have h0 : (wb.alloc (.cells #[.slice none 0 0, .int .i64 0] 43)).heap[w.heap.size]? = some (.cells #[.slice a m c, .int .i64 err] 43 (0, 0)) := by
    rw [heap_alloc_old _ _ (by omega), hwb, heap_alloc_old _ _ (by omega), hwa]
    exact heap_new _ _
  have h1 : (wb.alloc (.cells #[.slice none 0 0, .int .i64 0] 43)).heap[w.heap.size + 1]? = some (.cells #[.int .i64 k, .int .u64 x, .int .i64 nn, .slice ao n cr] 33 (0, 0)) := by
    rw [heap_alloc_old _ _ (by omega), hwb, ← ha]
    exact heap_new _ _
  have h2 : (wb.alloc (.cells #[.slice none 0 0, .int .i64 0] 43)).heap[w.heap.size + 1 + 1]? = some (.cells #[.slice none 0 0, .int .i64 0] 43 (0, 0)) := by
    rw [← hb]
    exact heap_new _ _
  exact ⟨by rw [hwb, hwa]; exact (((Below.refl _ _).alloc (Nat.le_refl _) _).alloc (by simp) _).alloc (by simp; omega) _, by rw [cell_of_heap h0]; rfl, by rw [cell_of_heap h0]; rfl, by rw [cell_of_heap h1]; rfl, by rw [cell_of_heap h1]; rfl, h2, by rw [cell_of_heap h2]; rfl, by rw [cell_of_heap h2]; rfl, free_of_heap h2 0, free_of_heap h2 1, by simp [hb]⟩

theorem results_ttc {fn : Func} {p q u : Tmp} {ty : TypeId} (h : fn.results = #[.tmp p, .tmp q, .cell u ty]) {tmps : Array Value} {P : Program} {w : World} {ad : Addr} {v y z : Value} (hp : tmps.getD u undef = .pointer (some ad)) (hv : (loadVar ty ad).run P w = .ok v w) (hy : tmps.getD p undef = y) (hz : tmps.getD q undef = z) :
    (results fn tmps).run P w = .ok (.tuple #[y, z, v]) w := by
  have e : (results fn tmps).run P w = ((asAddr (tmps.getD u undef)).run P w).andThen fun a w₁ => ((loadVar ty a).run P w₁).andThen fun v w₂ => .ok (.tuple #[tmps.getD p undef, tmps.getD q undef, v]) w₂ := by
    simp only [results, h]
    simp [Sem.run_bind, Result.andThen]
  rw [e, hp, hy, hz]
  simp [asAddr, hv, Result.andThen]
theorem info_in : (Tryd.prog.info? 43).map (·.size) = some 2 := by kernel_rfl
theorem rq_done {w w1 wx : World} {a : Option Addr} {m c : Nat} {err k x nn : Int} (h : RqAt w w1 a m c err k x nn) (hx : Below (w.heap.size + 1 + 1 + 1) w1 wx) (A : Value) (E : Int) :
    (loadVar 43 ⟨w.heap.size + 1 + 1, 0, none⟩).run Tryd.prog ((wx.setCell ⟨w.heap.size + 1 + 1, 0, none⟩ A).setCell ⟨w.heap.size + 1 + 1, 1, none⟩ (.int .i64 E)).drew = .ok (.agg #[A, .int .i64 E]) ((wx.setCell ⟨w.heap.size + 1 + 1, 0, none⟩ A).setCell ⟨w.heap.size + 1 + 1, 1, none⟩ (.int .i64 E)).drew ∧
    Below w.heap.size w ((wx.setCell ⟨w.heap.size + 1 + 1, 0, none⟩ A).setCell ⟨w.heap.size + 1 + 1, 1, none⟩ (.int .i64 E)).drew := by
  have h0 : wx.heap[w.heap.size + 1 + 1]? = some (.cells #[.slice none 0 0, .int .i64 0] 43 (0, 0)) := (hx.block _ (by omega)).trans h.rr
  have h1 := heap_set (heap_set h0 0 A) 1 (.int .i64 E)
  have hb : Below w.heap.size w wx := h.bel.trans (hx.mono (by omega))
  have hk := (((Kept.refl (w.heap.size + 1 + 1) wx).setCell (p := ⟨w.heap.size + 1 + 1, 0, none⟩) rfl A).setCell (p := ⟨w.heap.size + 1 + 1, 1, none⟩) rfl (.int .i64 E)).drew
  refine ⟨?_, hb.trans (hk.below hb.size (by omega))⟩
  exact run_loadVar_row (P := Tryd.prog) _ _ 43 43 _ (0, 0) _ h1 Tryd.underlying43 rfl info_in

set_option maxRecDepth 100000 in
set_option maxHeartbeats 4000000 in
theorem rread_err (k x nn err : Int) (a ao : Option Addr) (m c n cr : Nat) (w : World) (he : err ≠ 0) :
    Calls Tryd.prog 18 #[inV a m c err, .agg #[.int .i64 k, .int .u64 x, .int .i64 nn, .slice ao n cr]] w fun e w' => e = .returned (.tuple #[.int .u64 0, .slice none 0 0, inV a m c err]) ∧ Below w.heap.size w w' := by
  have hE : (err != 0) = true := by rw [bne_iff_ne]; exact he
  obtain ⟨w1, hw1⟩ : ∃ q, q = ((w.alloc (.cells #[.slice a m c, .int .i64 err] 43)).alloc (.cells #[.int .i64 k, .int .u64 x, .int .i64 nn, .slice ao n cr] 33)).alloc (.cells #[.slice none 0 0, .int .i64 0] 43) := ⟨_, rfl⟩
  have HQ := hid (show RqAt w w1 a m c err k x nn from by rw [hw1]; exact rq_at w a ao m c n cr err k x nn)
  obtain ⟨_, s0, s1, o0, o2, r0, r1, f0, f1, siz⟩ := HQ.out
  unfold inV
  go_enter Tryd.func18, Tryd.ntmps18
  go_upto_region 1 with fail
  change Code.wp _ _ _ _ (((w.alloc (.cells #[.slice a m c, .int .i64 err] 43)).alloc (.cells #[.int .i64 k, .int .u64 x, .int .i64 nn, .slice ao n cr] 33)).alloc (.cells #[.slice none 0 0, .int .i64 0] 43))
  rw [← hw1]
  clear hw1
  go_wp2
  go_region
  all_goals go_wp2
  have hd := rq_done HQ.out (Below.refl _ _) (.slice a m c) err
  exact bodyPost_ret (v := .tuple #[.int .u64 0, .slice none 0 0, .agg #[.slice a m c, .int .i64 err]]) (results_ttc Tryd.results18 rfl hd.1 rfl rfl) rfl ⟨rfl, hd.2⟩
/-- the bytes from s to e -/
theorem bs_sub {w : World} {a : Option Addr} {n c : Nat} {l : List Nat} (h : Bs w (.slice a n c) l) (hc : n ≤ c) (hnil : a = none → c = 0) (s e : Nat) (hs : s ≤ e) (he : e ≤ n) :
    ∃ a' c', (∀ w', (Instr.sliceAt 27 (.slice a n c) (some (.int .i64 (s : Int))) (some (.int .i64 (e : Int))) none).run Tryd.prog w' = .ok (.slice a' (e - s) c') w') ∧ Bs w (.slice a' (e - s) c') ((l.drop s).take (e - s)) ∧ e - s ≤ c' ∧ (a' = none → c' = 0) := by
  obtain ⟨a', c', h1, h2, h3, h4, _⟩ := bs_from0 (bs_upto h e he) (Nat.le_trans he hc) hnil s hs
  refine ⟨a', c', fun w' => ?_, by rw [List.drop_take] at h2; exact h2, h3, h4⟩
  rw [← h1 w']
  have u1 : (e : Int) ≤ (c : Int) := by omega
  have u2 : (0 : Int) ≤ (s : Int) := by omega
  have u3 : (s : Int) ≤ (e : Int) := by omega
  have u4 : (0 : Int) ≤ (e : Int) := by omega
  cases a <;> simp [go_sem, Tryd.underlying27, u1, u2, u3]

set_option maxRecDepth 100000 in
set_option maxHeartbeats 4000000 in
theorem rread_kind (k x nn : Int) (a ao : Option Addr) (m c n cr : Nat) (w : World) (hk : k < 1 ∨ 6 < k) :
    Calls Tryd.prog 18 #[inV a m c 0, .agg #[.int .i64 k, .int .u64 x, .int .i64 nn, .slice ao n cr]] w fun e w' => e = .returned (.tuple #[.int .u64 0, .slice none 0 0, inV a m c 0]) ∧ Below w.heap.size w w' := by
  have h0 : k < 1 ∨ ¬ k < 1 ∧ 6 < k := by omega
  clear hk
  rcases h0 with h0 | ⟨h0, h6⟩
  all_goals
    obtain ⟨w1, hw1⟩ : ∃ q, q = ((w.alloc (.cells #[.slice a m c, .int .i64 0] 43)).alloc (.cells #[.int .i64 k, .int .u64 x, .int .i64 nn, .slice ao n cr] 33)).alloc (.cells #[.slice none 0 0, .int .i64 0] 43) := ⟨_, rfl⟩
    have HQ := hid (show RqAt w w1 a m c 0 k x nn from by rw [hw1]; exact rq_at w a ao m c n cr 0 k x nn)
    obtain ⟨_, s0, s1, o0, o2, _, r0, r1, f0, f1, siz⟩ := HQ.out
    unfold inV
    go_enter Tryd.func18, Tryd.ntmps18
    go_upto_region 1 with fail
    change Code.wp _ _ _ _ (((w.alloc (.cells #[.slice a m c, .int .i64 0] 43)).alloc (.cells #[.int .i64 k, .int .u64 x, .int .i64 nn, .slice ao n cr] 33)).alloc (.cells #[.slice none 0 0, .int .i64 0] 43))
    rw [← hw1]
    clear hw1
    go_wp2
    go_region
    go_wp2
    have hd := rq_done HQ.out (Below.refl _ _) (.slice a m c) 0
    exact bodyPost_ret (v := .tuple #[.int .u64 0, .slice none 0 0, .agg #[.slice a m c, .int .i64 0]]) (results_ttc Tryd.results18 rfl hd.1 rfl rfl) rfl ⟨rfl, hd.2⟩

set_option maxRecDepth 100000 in
set_option maxHeartbeats 4000000 in
/-- a number of K bytes that are not left -/
theorem rread_short (k nn : Int) (q : Nat) (x : Int) (a ao : Option Addr) (m c n cr : Nat) (w : World) (hk : (k = 1 ∧ q = 1) ∨ (k = 2 ∧ q = 2) ∨ (k = 3 ∧ q = 4) ∨ (k = 4 ∧ q = 8)) (hm : (m : Int) < (q : Int)) :
    Calls Tryd.prog 18 #[inV a m c 0, .agg #[.int .i64 k, .int .u64 x, .int .i64 nn, .slice ao n cr]] w fun e w' => e = .returned (.tuple #[.int .u64 0, .slice none 0 0, inV a m c 4]) ∧ Below w.heap.size w w' := by
  have tm : IntKind.i64.wrap (m : Int) = (m : Int) := by rw [IntKind.wrap_i64]; omega
  have HW := hid (fun (w : World) => width_any k w)
  obtain ⟨rfl, rfl⟩ | ⟨rfl, rfl⟩ | ⟨rfl, rfl⟩ | ⟨rfl, rfl⟩ := hk
  · have hm2 : (m : Int) < 1 := by omega
    clear hm
    have HX := hid (show ∀ w : World, Calls Tryd.prog 49 #[.int .i64 1] w (fun e w' => e = .returned (.int .i64 1) ∧ w = w') from HW.out)
    obtain ⟨w1, hw1⟩ : ∃ q, q = ((w.alloc (.cells #[.slice a m c, .int .i64 0] 43)).alloc (.cells #[.int .i64 1, .int .u64 x, .int .i64 nn, .slice ao n cr] 33)).alloc (.cells #[.slice none 0 0, .int .i64 0] 43) := ⟨_, rfl⟩
    have HQ := hid (show RqAt w w1 a m c 0 1 x nn from by rw [hw1]; exact rq_at w a ao m c n cr 0 1 x nn)
    obtain ⟨_, s0, s1, o0, o2, _, r0, r1, f0, f1, siz⟩ := HQ.out
    unfold inV
    go_enter Tryd.func18, Tryd.ntmps18
    go_upto_region 1 with fail
    change Code.wp _ _ _ _ (((w.alloc (.cells #[.slice a m c, .int .i64 0] 43)).alloc (.cells #[.int .i64 1, .int .u64 x, .int .i64 nn, .slice ao n cr] 33)).alloc (.cells #[.slice none 0 0, .int .i64 0] 43))
    rw [← hw1]
    clear hw1
    go_wp2_with fail
    refine (HX.out w1).mono ?_
    rintro e w2 ⟨rfl, rfl⟩
    go_wp2
    go_region
    go_wp2
    have hd := rq_done HQ.out (Below.refl _ _) (.slice a m c) 4
    exact bodyPost_ret (v := .tuple #[.int .u64 0, .slice none 0 0, .agg #[.slice a m c, .int .i64 4]]) (results_ttc Tryd.results18 rfl hd.1 rfl rfl) rfl ⟨rfl, hd.2⟩
  · have hm2 : (m : Int) < 2 := by omega
    clear hm
    have HX := hid (show ∀ w : World, Calls Tryd.prog 49 #[.int .i64 2] w (fun e w' => e = .returned (.int .i64 2) ∧ w = w') from HW.out)
    obtain ⟨w1, hw1⟩ : ∃ q, q = ((w.alloc (.cells #[.slice a m c, .int .i64 0] 43)).alloc (.cells #[.int .i64 2, .int .u64 x, .int .i64 nn, .slice ao n cr] 33)).alloc (.cells #[.slice none 0 0, .int .i64 0] 43) := ⟨_, rfl⟩
    have HQ := hid (show RqAt w w1 a m c 0 2 x nn from by rw [hw1]; exact rq_at w a ao m c n cr 0 2 x nn)
    obtain ⟨_, s0, s1, o0, o2, _, r0, r1, f0, f1, siz⟩ := HQ.out
    unfold inV
    go_enter Tryd.func18, Tryd.ntmps18
    go_upto_region 1 with fail
    change Code.wp _ _ _ _ (((w.alloc (.cells #[.slice a m c, .int .i64 0] 43)).alloc (.cells #[.int .i64 2, .int .u64 x, .int .i64 nn, .slice ao n cr] 33)).alloc (.cells #[.slice none 0 0, .int .i64 0] 43))
    rw [← hw1]
    clear hw1
    go_wp2_with fail
    refine (HX.out w1).mono ?_
    rintro e w2 ⟨rfl, rfl⟩
    go_wp2
    go_region
    go_wp2
    have hd := rq_done HQ.out (Below.refl _ _) (.slice a m c) 4
    exact bodyPost_ret (v := .tuple #[.int .u64 0, .slice none 0 0, .agg #[.slice a m c, .int .i64 4]]) (results_ttc Tryd.results18 rfl hd.1 rfl rfl) rfl ⟨rfl, hd.2⟩
  · have hm2 : (m : Int) < 4 := by omega
    clear hm
    have HX := hid (show ∀ w : World, Calls Tryd.prog 49 #[.int .i64 3] w (fun e w' => e = .returned (.int .i64 4) ∧ w = w') from HW.out)
    obtain ⟨w1, hw1⟩ : ∃ q, q = ((w.alloc (.cells #[.slice a m c, .int .i64 0] 43)).alloc (.cells #[.int .i64 3, .int .u64 x, .int .i64 nn, .slice ao n cr] 33)).alloc (.cells #[.slice none 0 0, .int .i64 0] 43) := ⟨_, rfl⟩
    have HQ := hid (show RqAt w w1 a m c 0 3 x nn from by rw [hw1]; exact rq_at w a ao m c n cr 0 3 x nn)
    obtain ⟨_, s0, s1, o0, o2, _, r0, r1, f0, f1, siz⟩ := HQ.out
    unfold inV
    go_enter Tryd.func18, Tryd.ntmps18
    go_upto_region 1 with fail
    change Code.wp _ _ _ _ (((w.alloc (.cells #[.slice a m c, .int .i64 0] 43)).alloc (.cells #[.int .i64 3, .int .u64 x, .int .i64 nn, .slice ao n cr] 33)).alloc (.cells #[.slice none 0 0, .int .i64 0] 43))
    rw [← hw1]
    clear hw1
    go_wp2_with fail
    refine (HX.out w1).mono ?_
    rintro e w2 ⟨rfl, rfl⟩
    go_wp2
    go_region
    go_wp2
    have hd := rq_done HQ.out (Below.refl _ _) (.slice a m c) 4
    exact bodyPost_ret (v := .tuple #[.int .u64 0, .slice none 0 0, .agg #[.slice a m c, .int .i64 4]]) (results_ttc Tryd.results18 rfl hd.1 rfl rfl) rfl ⟨rfl, hd.2⟩
  · have hm2 : (m : Int) < 8 := by omega
    clear hm
    have HX := hid (show ∀ w : World, Calls Tryd.prog 49 #[.int .i64 4] w (fun e w' => e = .returned (.int .i64 8) ∧ w = w') from HW.out)
    obtain ⟨w1, hw1⟩ : ∃ q, q = ((w.alloc (.cells #[.slice a m c, .int .i64 0] 43)).alloc (.cells #[.int .i64 4, .int .u64 x, .int .i64 nn, .slice ao n cr] 33)).alloc (.cells #[.slice none 0 0, .int .i64 0] 43) := ⟨_, rfl⟩
    have HQ := hid (show RqAt w w1 a m c 0 4 x nn from by rw [hw1]; exact rq_at w a ao m c n cr 0 4 x nn)
    obtain ⟨_, s0, s1, o0, o2, _, r0, r1, f0, f1, siz⟩ := HQ.out
    unfold inV
    go_enter Tryd.func18, Tryd.ntmps18
    go_upto_region 1 with fail
    change Code.wp _ _ _ _ (((w.alloc (.cells #[.slice a m c, .int .i64 0] 43)).alloc (.cells #[.int .i64 4, .int .u64 x, .int .i64 nn, .slice ao n cr] 33)).alloc (.cells #[.slice none 0 0, .int .i64 0] 43))
    rw [← hw1]
    clear hw1
    go_wp2_with fail
    refine (HX.out w1).mono ?_
    rintro e w2 ⟨rfl, rfl⟩
    go_wp2
    go_region
    go_wp2
    have hd := rq_done HQ.out (Below.refl _ _) (.slice a m c) 4
    exact bodyPost_ret (v := .tuple #[.int .u64 0, .slice none 0 0, .agg #[.slice a m c, .int .i64 4]]) (results_ttc Tryd.results18 rfl hd.1 rfl rfl) rfl ⟨rfl, hd.2⟩
end Go.Proofs.YtdjnjmekdjcbaaaDoor

namespace Go.Proofs.YtdjnjmekdjcbaaaDoor
open Go Go.RowKit
set_option linter.unusedVariables false

theorem srcD {a a2 : Option Addr} {n c m c2 : Nat} (h : ∀ fb, Off fb (.slice a n c) → Off fb (.slice a2 m c2)) : Src a a2 := fun fb hf => off_of (h fb (off_to hf))
def InTo (w : World) (a0 : Option Addr) (l : List Nat) (err : Int) (v : Value) (w' : World) : Prop := ∃ a c, v = .agg #[.slice a l.length c, .int .i64 err] ∧ Bs w' (.slice a l.length c) l ∧ l.length ≤ c ∧ (a = none → c = 0) ∧ Below w.heap.size w w' ∧ Src a0 a
set_option maxRecDepth 100000 in
set_option maxHeartbeats 4000000 in
theorem rread_num1 (x nn : Int) (a ao : Option Addr) (m c n cr : Nat) (l : List Nat) (w : World) (hb : Bs w (.slice a m c) l) (hc : m ≤ c) (hnil : a = none → c = 0) (hm : 1 ≤ m) (hm2 : m ≤ 100000000000) :
    Calls Tryd.prog 18 #[inV a m c 0, .agg #[.int .i64 1, .int .u64 x, .int .i64 nn, .slice ao n cr]] w fun e w' => ∃ v, e = .returned (.tuple #[.int .u64 ((beV (l.take 1) (l.take 1).length : Nat) : Int), .slice none 0 0, v]) ∧ InTo w a (l.drop 1) 0 v w' := by
  have tm : IntKind.i64.wrap (m : Int) = (m : Int) := by rw [IntKind.wrap_i64]; omega
  have hm3 : ¬ ((m : Int) < 1) := by omega
  have HX := hid (show ∀ w : World, Calls Tryd.prog 49 #[.int .i64 1] w (fun e w' => e = .returned (.int .i64 1) ∧ w = w') from fun w => width_any 1 w)
  obtain ⟨a1, c1, y1, hb1, hc1, hn1⟩ := bs_sub hb hc hnil 0 1 (by omega) hm
  obtain ⟨a2, c2, y2, hb2, hc2, hn2, ho2⟩ := bs_from0 hb hc hnil 1 hm
  have z1 : ∀ w', (Instr.sliceAt 27 (.slice a m c) (some (.int .i64 0)) (some (.int .i64 1)) none).run Tryd.prog w' = .ok (.slice a1 1 c1) w' := y1
  have z2 : ∀ w', (Instr.sliceAt 27 (.slice a m c) (some (.int .i64 1)) none none).run Tryd.prog w' = .ok (.slice a2 (m - 1) c2) w' := y2
  have HVL := hid (fun (wy : World) (B : Below w.heap.size w wy) => (show Calls Tryd.prog 58 #[.slice a1 1 c1] wy (fun e w' => e = .returned (.int .u64 ((beV (l.take 1) (l.take 1).length : Nat) : Int)) ∧ wy = w') from value_any8 a1 1 c1 (l.take 1) wy (hb1.below B) (by omega)))
  have HIN := hid (fun (wy : World) (B : Below w.heap.size w wy) => (show InTo w a (l.drop 1) 0 (.agg #[.slice a2 (m - 1) c2, .int .i64 0]) wy from by
    have hl := hb.len
    have e : (l.drop 1).length = m - 1 := by rw [List.length_drop]; omega
    exact ⟨a2, c2, by rw [e], by rw [e]; exact hb2.below B, by rw [e]; exact hc2, hn2, B, srcD ho2⟩))
  generalize beV (l.take 1) (l.take 1).length = V at *
  generalize hmr : m - 1 = r at *
  clear y1 y2 hb1 hb2 hc1 hc2 hn1 hn2 ho2 hb hnil hmr
  obtain ⟨w1, hw1⟩ : ∃ q, q = ((w.alloc (.cells #[.slice a m c, .int .i64 0] 43)).alloc (.cells #[.int .i64 1, .int .u64 x, .int .i64 nn, .slice ao n cr] 33)).alloc (.cells #[.slice none 0 0, .int .i64 0] 43) := ⟨_, rfl⟩
  have HQ := hid (show RqAt w w1 a m c 0 1 x nn from by rw [hw1]; exact rq_at w a ao m c n cr 0 1 x nn)
  obtain ⟨_, s0, s1, o0, o2, _, r0, r1, f0, f1, siz⟩ := HQ.out
  unfold inV
  go_enter Tryd.func18, Tryd.ntmps18
  go_upto_region 1 with fail
  change Code.wp _ _ _ _ (((w.alloc (.cells #[.slice a m c, .int .i64 0] 43)).alloc (.cells #[.int .i64 1, .int .u64 x, .int .i64 nn, .slice ao n cr] 33)).alloc (.cells #[.slice none 0 0, .int .i64 0] 43))
  rw [← hw1]
  clear hw1
  go_wp2_with fail
  refine (HX.out w1).mono ?_
  rintro e w2 ⟨rfl, rfl⟩
  go_upto_region 17 with fail
  obtain ⟨wx, hwx⟩ : ∃ q, q = w1.alloc (.cells #[.slice a2 r c2, .int .i64 0] 43) := ⟨_, rfl⟩
  have HBX := hid (show Below (w.heap.size + 1 + 1 + 1) w1 wx from by rw [hwx, ← siz]; exact (Below.refl _ _).alloc (Nat.le_refl _) _)
  have hnx : wx.heap[w.heap.size + 1 + 1 + 1]? = some (.cells #[.slice a2 r c2, .int .i64 0] 43 (0, 0)) := by rw [hwx, ← siz]; exact heap_new _ _
  have d0 : wx.cell? ⟨w.heap.size + 1 + 1 + 1, 0, none⟩ = some (.slice a2 r c2) := by rw [cell_of_heap hnx]; rfl
  have d1 : wx.cell? ⟨w.heap.size + 1 + 1 + 1, 1, none⟩ = some (.int .i64 0) := by rw [cell_of_heap hnx]; rfl
  have hrx : wx.heap[w.heap.size + 1 + 1]? = w1.heap[w.heap.size + 1 + 1]? := HBX.out.block _ (by omega)
  have x0 : wx.cell? ⟨w.heap.size + 1 + 1, 0, none⟩ = some (.slice none 0 0) := (World.cell?_of_block (a := ⟨w.heap.size + 1 + 1, 0, none⟩) hrx).trans r0
  have x1 : wx.cell? ⟨w.heap.size + 1 + 1, 1, none⟩ = some (.int .i64 0) := (World.cell?_of_block (a := ⟨w.heap.size + 1 + 1, 1, none⟩) hrx).trans r1
  have y0 : wx.frozen? ⟨w.heap.size + 1 + 1, 0, none⟩ = false := (World.frozen?_of_block (a := ⟨w.heap.size + 1 + 1, 0, none⟩) hrx).trans f0
  have y1 : wx.frozen? ⟨w.heap.size + 1 + 1, 1, none⟩ = false := (World.frozen?_of_block (a := ⟨w.heap.size + 1 + 1, 1, none⟩) hrx).trans f1
  have HWX := hid (show Below w.heap.size w wx.drew from (HQ.out.bel.trans (HBX.out.mono (by omega))).trans (bel_drewN (Below.refl _ _) 1))
  rw [← hwx]
  clear hwx hnx hrx s0 s1 o0 o2 r0 r1 f0 f1
  go_region_with (first
    | (go_at_call 58
       refine (HVL.out _ HWX.out).mono ?_
       rintro e w9 ⟨rfl, rfl⟩))
  all_goals go_wp2
  all_goals
    have hd := rq_done HQ.out HBX.out (.slice a2 r c2) 0
    exact bodyPost_ret (v := .tuple #[.int .u64 (V : Int), .slice none 0 0, .agg #[.slice a2 r c2, .int .i64 0]]) (results_ttc Tryd.results18 rfl hd.1 rfl rfl) rfl ⟨_, rfl, HIN.out _ hd.2⟩
set_option maxRecDepth 100000 in
set_option maxHeartbeats 4000000 in
theorem rread_num2 (x nn : Int) (a ao : Option Addr) (m c n cr : Nat) (l : List Nat) (w : World) (hb : Bs w (.slice a m c) l) (hc : m ≤ c) (hnil : a = none → c = 0) (hm : 2 ≤ m) (hm2 : m ≤ 100000000000) :
    Calls Tryd.prog 18 #[inV a m c 0, .agg #[.int .i64 2, .int .u64 x, .int .i64 nn, .slice ao n cr]] w fun e w' => ∃ v, e = .returned (.tuple #[.int .u64 ((beV (l.take 2) (l.take 2).length : Nat) : Int), .slice none 0 0, v]) ∧ InTo w a (l.drop 2) 0 v w' := by
  have tm : IntKind.i64.wrap (m : Int) = (m : Int) := by rw [IntKind.wrap_i64]; omega
  have hm3 : ¬ ((m : Int) < 2) := by omega
  have HX := hid (show ∀ w : World, Calls Tryd.prog 49 #[.int .i64 2] w (fun e w' => e = .returned (.int .i64 2) ∧ w = w') from fun w => width_any 2 w)
  obtain ⟨a1, c1, y1, hb1, hc1, hn1⟩ := bs_sub hb hc hnil 0 2 (by omega) hm
  obtain ⟨a2, c2, y2, hb2, hc2, hn2, ho2⟩ := bs_from0 hb hc hnil 2 hm
  have z1 : ∀ w', (Instr.sliceAt 27 (.slice a m c) (some (.int .i64 0)) (some (.int .i64 2)) none).run Tryd.prog w' = .ok (.slice a1 2 c1) w' := y1
  have z2 : ∀ w', (Instr.sliceAt 27 (.slice a m c) (some (.int .i64 2)) none none).run Tryd.prog w' = .ok (.slice a2 (m - 2) c2) w' := y2
  have HVL := hid (fun (wy : World) (B : Below w.heap.size w wy) => (show Calls Tryd.prog 58 #[.slice a1 2 c1] wy (fun e w' => e = .returned (.int .u64 ((beV (l.take 2) (l.take 2).length : Nat) : Int)) ∧ wy = w') from value_any8 a1 2 c1 (l.take 2) wy (hb1.below B) (by omega)))
  have HIN := hid (fun (wy : World) (B : Below w.heap.size w wy) => (show InTo w a (l.drop 2) 0 (.agg #[.slice a2 (m - 2) c2, .int .i64 0]) wy from by
    have hl := hb.len
    have e : (l.drop 2).length = m - 2 := by rw [List.length_drop]; omega
    exact ⟨a2, c2, by rw [e], by rw [e]; exact hb2.below B, by rw [e]; exact hc2, hn2, B, srcD ho2⟩))
  generalize beV (l.take 2) (l.take 2).length = V at *
  generalize hmr : m - 2 = r at *
  clear y1 y2 hb1 hb2 hc1 hc2 hn1 hn2 ho2 hb hnil hmr
  obtain ⟨w1, hw1⟩ : ∃ q, q = ((w.alloc (.cells #[.slice a m c, .int .i64 0] 43)).alloc (.cells #[.int .i64 2, .int .u64 x, .int .i64 nn, .slice ao n cr] 33)).alloc (.cells #[.slice none 0 0, .int .i64 0] 43) := ⟨_, rfl⟩
  have HQ := hid (show RqAt w w1 a m c 0 2 x nn from by rw [hw1]; exact rq_at w a ao m c n cr 0 2 x nn)
  obtain ⟨_, s0, s1, o0, o2, _, r0, r1, f0, f1, siz⟩ := HQ.out
  unfold inV
  go_enter Tryd.func18, Tryd.ntmps18
  go_upto_region 1 with fail
  change Code.wp _ _ _ _ (((w.alloc (.cells #[.slice a m c, .int .i64 0] 43)).alloc (.cells #[.int .i64 2, .int .u64 x, .int .i64 nn, .slice ao n cr] 33)).alloc (.cells #[.slice none 0 0, .int .i64 0] 43))
  rw [← hw1]
  clear hw1
  go_wp2_with fail
  refine (HX.out w1).mono ?_
  rintro e w2 ⟨rfl, rfl⟩
  go_upto_region 17 with fail
  obtain ⟨wx, hwx⟩ : ∃ q, q = w1.alloc (.cells #[.slice a2 r c2, .int .i64 0] 43) := ⟨_, rfl⟩
  have HBX := hid (show Below (w.heap.size + 1 + 1 + 1) w1 wx from by rw [hwx, ← siz]; exact (Below.refl _ _).alloc (Nat.le_refl _) _)
  have hnx : wx.heap[w.heap.size + 1 + 1 + 1]? = some (.cells #[.slice a2 r c2, .int .i64 0] 43 (0, 0)) := by rw [hwx, ← siz]; exact heap_new _ _
  have d0 : wx.cell? ⟨w.heap.size + 1 + 1 + 1, 0, none⟩ = some (.slice a2 r c2) := by rw [cell_of_heap hnx]; rfl
  have d1 : wx.cell? ⟨w.heap.size + 1 + 1 + 1, 1, none⟩ = some (.int .i64 0) := by rw [cell_of_heap hnx]; rfl
  have hrx : wx.heap[w.heap.size + 1 + 1]? = w1.heap[w.heap.size + 1 + 1]? := HBX.out.block _ (by omega)
  have x0 : wx.cell? ⟨w.heap.size + 1 + 1, 0, none⟩ = some (.slice none 0 0) := (World.cell?_of_block (a := ⟨w.heap.size + 1 + 1, 0, none⟩) hrx).trans r0
  have x1 : wx.cell? ⟨w.heap.size + 1 + 1, 1, none⟩ = some (.int .i64 0) := (World.cell?_of_block (a := ⟨w.heap.size + 1 + 1, 1, none⟩) hrx).trans r1
  have y0 : wx.frozen? ⟨w.heap.size + 1 + 1, 0, none⟩ = false := (World.frozen?_of_block (a := ⟨w.heap.size + 1 + 1, 0, none⟩) hrx).trans f0
  have y1 : wx.frozen? ⟨w.heap.size + 1 + 1, 1, none⟩ = false := (World.frozen?_of_block (a := ⟨w.heap.size + 1 + 1, 1, none⟩) hrx).trans f1
  have HWX := hid (show Below w.heap.size w wx.drew from (HQ.out.bel.trans (HBX.out.mono (by omega))).trans (bel_drewN (Below.refl _ _) 1))
  rw [← hwx]
  clear hwx hnx hrx s0 s1 o0 o2 r0 r1 f0 f1
  go_region_with (first
    | (go_at_call 58
       refine (HVL.out _ HWX.out).mono ?_
       rintro e w9 ⟨rfl, rfl⟩))
  all_goals go_wp2
  all_goals
    have hd := rq_done HQ.out HBX.out (.slice a2 r c2) 0
    exact bodyPost_ret (v := .tuple #[.int .u64 (V : Int), .slice none 0 0, .agg #[.slice a2 r c2, .int .i64 0]]) (results_ttc Tryd.results18 rfl hd.1 rfl rfl) rfl ⟨_, rfl, HIN.out _ hd.2⟩
set_option maxRecDepth 100000 in
set_option maxHeartbeats 4000000 in
theorem rread_num3 (x nn : Int) (a ao : Option Addr) (m c n cr : Nat) (l : List Nat) (w : World) (hb : Bs w (.slice a m c) l) (hc : m ≤ c) (hnil : a = none → c = 0) (hm : 4 ≤ m) (hm2 : m ≤ 100000000000) :
    Calls Tryd.prog 18 #[inV a m c 0, .agg #[.int .i64 3, .int .u64 x, .int .i64 nn, .slice ao n cr]] w fun e w' => ∃ v, e = .returned (.tuple #[.int .u64 ((beV (l.take 4) (l.take 4).length : Nat) : Int), .slice none 0 0, v]) ∧ InTo w a (l.drop 4) 0 v w' := by
  have tm : IntKind.i64.wrap (m : Int) = (m : Int) := by rw [IntKind.wrap_i64]; omega
  have hm3 : ¬ ((m : Int) < 4) := by omega
  have HX := hid (show ∀ w : World, Calls Tryd.prog 49 #[.int .i64 3] w (fun e w' => e = .returned (.int .i64 4) ∧ w = w') from fun w => width_any 3 w)
  obtain ⟨a1, c1, y1, hb1, hc1, hn1⟩ := bs_sub hb hc hnil 0 4 (by omega) hm
  obtain ⟨a2, c2, y2, hb2, hc2, hn2, ho2⟩ := bs_from0 hb hc hnil 4 hm
  have z1 : ∀ w', (Instr.sliceAt 27 (.slice a m c) (some (.int .i64 0)) (some (.int .i64 4)) none).run Tryd.prog w' = .ok (.slice a1 4 c1) w' := y1
  have z2 : ∀ w', (Instr.sliceAt 27 (.slice a m c) (some (.int .i64 4)) none none).run Tryd.prog w' = .ok (.slice a2 (m - 4) c2) w' := y2
  have HVL := hid (fun (wy : World) (B : Below w.heap.size w wy) => (show Calls Tryd.prog 58 #[.slice a1 4 c1] wy (fun e w' => e = .returned (.int .u64 ((beV (l.take 4) (l.take 4).length : Nat) : Int)) ∧ wy = w') from value_any8 a1 4 c1 (l.take 4) wy (hb1.below B) (by omega)))
  have HIN := hid (fun (wy : World) (B : Below w.heap.size w wy) => (show InTo w a (l.drop 4) 0 (.agg #[.slice a2 (m - 4) c2, .int .i64 0]) wy from by
    have hl := hb.len
    have e : (l.drop 4).length = m - 4 := by rw [List.length_drop]; omega
    exact ⟨a2, c2, by rw [e], by rw [e]; exact hb2.below B, by rw [e]; exact hc2, hn2, B, srcD ho2⟩))
  generalize beV (l.take 4) (l.take 4).length = V at *
  generalize hmr : m - 4 = r at *
  clear y1 y2 hb1 hb2 hc1 hc2 hn1 hn2 ho2 hb hnil hmr
  obtain ⟨w1, hw1⟩ : ∃ q, q = ((w.alloc (.cells #[.slice a m c, .int .i64 0] 43)).alloc (.cells #[.int .i64 3, .int .u64 x, .int .i64 nn, .slice ao n cr] 33)).alloc (.cells #[.slice none 0 0, .int .i64 0] 43) := ⟨_, rfl⟩
  have HQ := hid (show RqAt w w1 a m c 0 3 x nn from by rw [hw1]; exact rq_at w a ao m c n cr 0 3 x nn)
  obtain ⟨_, s0, s1, o0, o2, _, r0, r1, f0, f1, siz⟩ := HQ.out
  unfold inV
  go_enter Tryd.func18, Tryd.ntmps18
  go_upto_region 1 with fail
  change Code.wp _ _ _ _ (((w.alloc (.cells #[.slice a m c, .int .i64 0] 43)).alloc (.cells #[.int .i64 3, .int .u64 x, .int .i64 nn, .slice ao n cr] 33)).alloc (.cells #[.slice none 0 0, .int .i64 0] 43))
  rw [← hw1]
  clear hw1
  go_wp2_with fail
  refine (HX.out w1).mono ?_
  rintro e w2 ⟨rfl, rfl⟩
  go_upto_region 17 with fail
  obtain ⟨wx, hwx⟩ : ∃ q, q = w1.alloc (.cells #[.slice a2 r c2, .int .i64 0] 43) := ⟨_, rfl⟩
  have HBX := hid (show Below (w.heap.size + 1 + 1 + 1) w1 wx from by rw [hwx, ← siz]; exact (Below.refl _ _).alloc (Nat.le_refl _) _)
  have hnx : wx.heap[w.heap.size + 1 + 1 + 1]? = some (.cells #[.slice a2 r c2, .int .i64 0] 43 (0, 0)) := by rw [hwx, ← siz]; exact heap_new _ _
  have d0 : wx.cell? ⟨w.heap.size + 1 + 1 + 1, 0, none⟩ = some (.slice a2 r c2) := by rw [cell_of_heap hnx]; rfl
  have d1 : wx.cell? ⟨w.heap.size + 1 + 1 + 1, 1, none⟩ = some (.int .i64 0) := by rw [cell_of_heap hnx]; rfl
  have hrx : wx.heap[w.heap.size + 1 + 1]? = w1.heap[w.heap.size + 1 + 1]? := HBX.out.block _ (by omega)
  have x0 : wx.cell? ⟨w.heap.size + 1 + 1, 0, none⟩ = some (.slice none 0 0) := (World.cell?_of_block (a := ⟨w.heap.size + 1 + 1, 0, none⟩) hrx).trans r0
  have x1 : wx.cell? ⟨w.heap.size + 1 + 1, 1, none⟩ = some (.int .i64 0) := (World.cell?_of_block (a := ⟨w.heap.size + 1 + 1, 1, none⟩) hrx).trans r1
  have y0 : wx.frozen? ⟨w.heap.size + 1 + 1, 0, none⟩ = false := (World.frozen?_of_block (a := ⟨w.heap.size + 1 + 1, 0, none⟩) hrx).trans f0
  have y1 : wx.frozen? ⟨w.heap.size + 1 + 1, 1, none⟩ = false := (World.frozen?_of_block (a := ⟨w.heap.size + 1 + 1, 1, none⟩) hrx).trans f1
  have HWX := hid (show Below w.heap.size w wx.drew from (HQ.out.bel.trans (HBX.out.mono (by omega))).trans (bel_drewN (Below.refl _ _) 1))
  rw [← hwx]
  clear hwx hnx hrx s0 s1 o0 o2 r0 r1 f0 f1
  go_region_with (first
    | (go_at_call 58
       refine (HVL.out _ HWX.out).mono ?_
       rintro e w9 ⟨rfl, rfl⟩))
  all_goals go_wp2
  all_goals
    have hd := rq_done HQ.out HBX.out (.slice a2 r c2) 0
    exact bodyPost_ret (v := .tuple #[.int .u64 (V : Int), .slice none 0 0, .agg #[.slice a2 r c2, .int .i64 0]]) (results_ttc Tryd.results18 rfl hd.1 rfl rfl) rfl ⟨_, rfl, HIN.out _ hd.2⟩
set_option maxRecDepth 100000 in
set_option maxHeartbeats 4000000 in
theorem rread_num4 (x nn : Int) (a ao : Option Addr) (m c n cr : Nat) (l : List Nat) (w : World) (hb : Bs w (.slice a m c) l) (hc : m ≤ c) (hnil : a = none → c = 0) (hm : 8 ≤ m) (hm2 : m ≤ 100000000000) :
    Calls Tryd.prog 18 #[inV a m c 0, .agg #[.int .i64 4, .int .u64 x, .int .i64 nn, .slice ao n cr]] w fun e w' => ∃ v, e = .returned (.tuple #[.int .u64 ((beV (l.take 8) (l.take 8).length : Nat) : Int), .slice none 0 0, v]) ∧ InTo w a (l.drop 8) 0 v w' := by
  have tm : IntKind.i64.wrap (m : Int) = (m : Int) := by rw [IntKind.wrap_i64]; omega
  have hm3 : ¬ ((m : Int) < 8) := by omega
  have HX := hid (show ∀ w : World, Calls Tryd.prog 49 #[.int .i64 4] w (fun e w' => e = .returned (.int .i64 8) ∧ w = w') from fun w => width_any 4 w)
  obtain ⟨a1, c1, y1, hb1, hc1, hn1⟩ := bs_sub hb hc hnil 0 8 (by omega) hm
  obtain ⟨a2, c2, y2, hb2, hc2, hn2, ho2⟩ := bs_from0 hb hc hnil 8 hm
  have z1 : ∀ w', (Instr.sliceAt 27 (.slice a m c) (some (.int .i64 0)) (some (.int .i64 8)) none).run Tryd.prog w' = .ok (.slice a1 8 c1) w' := y1
  have z2 : ∀ w', (Instr.sliceAt 27 (.slice a m c) (some (.int .i64 8)) none none).run Tryd.prog w' = .ok (.slice a2 (m - 8) c2) w' := y2
  have HVL := hid (fun (wy : World) (B : Below w.heap.size w wy) => (show Calls Tryd.prog 58 #[.slice a1 8 c1] wy (fun e w' => e = .returned (.int .u64 ((beV (l.take 8) (l.take 8).length : Nat) : Int)) ∧ wy = w') from value_any8 a1 8 c1 (l.take 8) wy (hb1.below B) (by omega)))
  have HIN := hid (fun (wy : World) (B : Below w.heap.size w wy) => (show InTo w a (l.drop 8) 0 (.agg #[.slice a2 (m - 8) c2, .int .i64 0]) wy from by
    have hl := hb.len
    have e : (l.drop 8).length = m - 8 := by rw [List.length_drop]; omega
    exact ⟨a2, c2, by rw [e], by rw [e]; exact hb2.below B, by rw [e]; exact hc2, hn2, B, srcD ho2⟩))
  generalize beV (l.take 8) (l.take 8).length = V at *
  generalize hmr : m - 8 = r at *
  clear y1 y2 hb1 hb2 hc1 hc2 hn1 hn2 ho2 hb hnil hmr
  obtain ⟨w1, hw1⟩ : ∃ q, q = ((w.alloc (.cells #[.slice a m c, .int .i64 0] 43)).alloc (.cells #[.int .i64 4, .int .u64 x, .int .i64 nn, .slice ao n cr] 33)).alloc (.cells #[.slice none 0 0, .int .i64 0] 43) := ⟨_, rfl⟩
  have HQ := hid (show RqAt w w1 a m c 0 4 x nn from by rw [hw1]; exact rq_at w a ao m c n cr 0 4 x nn)
  obtain ⟨_, s0, s1, o0, o2, _, r0, r1, f0, f1, siz⟩ := HQ.out
  unfold inV
  go_enter Tryd.func18, Tryd.ntmps18
  go_upto_region 1 with fail
  change Code.wp _ _ _ _ (((w.alloc (.cells #[.slice a m c, .int .i64 0] 43)).alloc (.cells #[.int .i64 4, .int .u64 x, .int .i64 nn, .slice ao n cr] 33)).alloc (.cells #[.slice none 0 0, .int .i64 0] 43))
  rw [← hw1]
  clear hw1
  go_wp2_with fail
  refine (HX.out w1).mono ?_
  rintro e w2 ⟨rfl, rfl⟩
  go_upto_region 17 with fail
  obtain ⟨wx, hwx⟩ : ∃ q, q = w1.alloc (.cells #[.slice a2 r c2, .int .i64 0] 43) := ⟨_, rfl⟩
  have HBX := hid (show Below (w.heap.size + 1 + 1 + 1) w1 wx from by rw [hwx, ← siz]; exact (Below.refl _ _).alloc (Nat.le_refl _) _)
  have hnx : wx.heap[w.heap.size + 1 + 1 + 1]? = some (.cells #[.slice a2 r c2, .int .i64 0] 43 (0, 0)) := by rw [hwx, ← siz]; exact heap_new _ _
  have d0 : wx.cell? ⟨w.heap.size + 1 + 1 + 1, 0, none⟩ = some (.slice a2 r c2) := by rw [cell_of_heap hnx]; rfl
  have d1 : wx.cell? ⟨w.heap.size + 1 + 1 + 1, 1, none⟩ = some (.int .i64 0) := by rw [cell_of_heap hnx]; rfl
  have hrx : wx.heap[w.heap.size + 1 + 1]? = w1.heap[w.heap.size + 1 + 1]? := HBX.out.block _ (by omega)
  have x0 : wx.cell? ⟨w.heap.size + 1 + 1, 0, none⟩ = some (.slice none 0 0) := (World.cell?_of_block (a := ⟨w.heap.size + 1 + 1, 0, none⟩) hrx).trans r0
  have x1 : wx.cell? ⟨w.heap.size + 1 + 1, 1, none⟩ = some (.int .i64 0) := (World.cell?_of_block (a := ⟨w.heap.size + 1 + 1, 1, none⟩) hrx).trans r1
  have y0 : wx.frozen? ⟨w.heap.size + 1 + 1, 0, none⟩ = false := (World.frozen?_of_block (a := ⟨w.heap.size + 1 + 1, 0, none⟩) hrx).trans f0
  have y1 : wx.frozen? ⟨w.heap.size + 1 + 1, 1, none⟩ = false := (World.frozen?_of_block (a := ⟨w.heap.size + 1 + 1, 1, none⟩) hrx).trans f1
  have HWX := hid (show Below w.heap.size w wx.drew from (HQ.out.bel.trans (HBX.out.mono (by omega))).trans (bel_drewN (Below.refl _ _) 1))
  rw [← hwx]
  clear hwx hnx hrx s0 s1 o0 o2 r0 r1 f0 f1
  go_region_with (first
    | (go_at_call 58
       refine (HVL.out _ HWX.out).mono ?_
       rintro e w9 ⟨rfl, rfl⟩))
  all_goals go_wp2
  all_goals
    have hd := rq_done HQ.out HBX.out (.slice a2 r c2) 0
    exact bodyPost_ret (v := .tuple #[.int .u64 (V : Int), .slice none 0 0, .agg #[.slice a2 r c2, .int .i64 0]]) (results_ttc Tryd.results18 rfl hd.1 rfl rfl) rfl ⟨_, rfl, HIN.out _ hd.2⟩
end Go.Proofs.YtdjnjmekdjcbaaaDoor

namespace Go.Proofs.YtdjnjmekdjcbaaaDoor
open Go Go.RowKit
set_option linter.unusedVariables false

set_option maxRecDepth 100000 in
set_option maxHeartbeats 4000000 in
theorem rread_rawbad (x nn err : Int) (a ao : Option Addr) (m c n cr : Nat) (w : World) (hm2 : m ≤ 100000000000) (hn : (nn < 0 ∧ err = 2) ∨ ((m : Int) < nn ∧ err = 4)) :
    Calls Tryd.prog 18 #[inV a m c 0, .agg #[.int .i64 5, .int .u64 x, .int .i64 nn, .slice ao n cr]] w fun e w' => e = .returned (.tuple #[.int .u64 0, .slice none 0 0, inV a m c err]) ∧ Below w.heap.size w w' := by
  have tm : IntKind.i64.wrap (m : Int) = (m : Int) := by rw [IntKind.wrap_i64]; omega
  have HX := hid (show ∀ w : World, Calls Tryd.prog 49 #[.int .i64 5] w (fun e w' => e = .returned (.int .i64 0) ∧ w = w') from fun w => width_any 5 w)
  have hn' : (nn < 0 ∧ err = 2) ∨ (¬ nn < 0 ∧ (m : Int) < nn ∧ err = 4) := by omega
  clear hn
  rcases hn' with ⟨h0, rfl⟩ | ⟨h0, h1, rfl⟩
  · obtain ⟨w1, hw1⟩ : ∃ z, z = ((w.alloc (.cells #[.slice a m c, .int .i64 0] 43)).alloc (.cells #[.int .i64 5, .int .u64 x, .int .i64 nn, .slice ao n cr] 33)).alloc (.cells #[.slice none 0 0, .int .i64 0] 43) := ⟨_, rfl⟩
    have HQ := hid (show RqAt w w1 a m c 0 5 x nn from by rw [hw1]; exact rq_at w a ao m c n cr 0 5 x nn)
    obtain ⟨_, s0, s1, o0, o2, _, r0, r1, f0, f1, siz⟩ := HQ.out
    unfold inV
    go_enter Tryd.func18, Tryd.ntmps18
    go_upto_region 1 with fail
    change Code.wp _ _ _ _ (((w.alloc (.cells #[.slice a m c, .int .i64 0] 43)).alloc (.cells #[.int .i64 5, .int .u64 x, .int .i64 nn, .slice ao n cr] 33)).alloc (.cells #[.slice none 0 0, .int .i64 0] 43))
    rw [← hw1]
    clear hw1
    go_wp2_with fail
    refine (HX.out w1).mono ?_
    rintro e w2 ⟨rfl, rfl⟩
    go_wp2
    go_region
    go_wp2
    have hd := rq_done HQ.out (Below.refl _ _) (.slice a m c) 2
    exact bodyPost_ret (v := .tuple #[.int .u64 0, .slice none 0 0, .agg #[.slice a m c, .int .i64 2]]) (results_ttc Tryd.results18 rfl hd.1 rfl rfl) rfl ⟨rfl, hd.2⟩
  · obtain ⟨w1, hw1⟩ : ∃ z, z = ((w.alloc (.cells #[.slice a m c, .int .i64 0] 43)).alloc (.cells #[.int .i64 5, .int .u64 x, .int .i64 nn, .slice ao n cr] 33)).alloc (.cells #[.slice none 0 0, .int .i64 0] 43) := ⟨_, rfl⟩
    have HQ := hid (show RqAt w w1 a m c 0 5 x nn from by rw [hw1]; exact rq_at w a ao m c n cr 0 5 x nn)
    obtain ⟨_, s0, s1, o0, o2, _, r0, r1, f0, f1, siz⟩ := HQ.out
    unfold inV
    go_enter Tryd.func18, Tryd.ntmps18
    go_upto_region 1 with fail
    change Code.wp _ _ _ _ (((w.alloc (.cells #[.slice a m c, .int .i64 0] 43)).alloc (.cells #[.int .i64 5, .int .u64 x, .int .i64 nn, .slice ao n cr] 33)).alloc (.cells #[.slice none 0 0, .int .i64 0] 43))
    rw [← hw1]
    clear hw1
    go_wp2_with fail
    refine (HX.out w1).mono ?_
    rintro e w2 ⟨rfl, rfl⟩
    go_wp2
    go_region
    go_wp2
    have hd := rq_done HQ.out (Below.refl _ _) (.slice a m c) 4
    exact bodyPost_ret (v := .tuple #[.int .u64 0, .slice none 0 0, .agg #[.slice a m c, .int .i64 4]]) (results_ttc Tryd.results18 rfl hd.1 rfl rfl) rfl ⟨rfl, hd.2⟩

set_option maxRecDepth 100000 in
set_option maxHeartbeats 4000000 in
theorem rread_rawok (x : Int) (q : Nat) (a ao : Option Addr) (m c n cr : Nat) (l : List Nat) (w : World) (hb : Bs w (.slice a m c) l) (hc : m ≤ c) (hnil : a = none → c = 0) (hm : q ≤ m) (hm2 : m ≤ 100000000000) :
    Calls Tryd.prog 18 #[inV a m c 0, .agg #[.int .i64 5, .int .u64 x, .int .i64 (q : Int), .slice ao n cr]] w fun e w' => ∃ a1 c1 v, e = .returned (.tuple #[.int .u64 0, .slice a1 q c1, v]) ∧ Bs w' (.slice a1 q c1) (l.take q) ∧ InTo w a (l.drop q) 0 v w' := by
  have tm : IntKind.i64.wrap (m : Int) = (m : Int) := by rw [IntKind.wrap_i64]; omega
  have tq : IntKind.i64.wrap (q : Int) = (q : Int) := by rw [IntKind.wrap_i64]; omega
  have hm3 : ¬ ((m : Int) < (q : Int)) := by omega
  have HX := hid (show ∀ w : World, Calls Tryd.prog 49 #[.int .i64 5] w (fun e w' => e = .returned (.int .i64 0) ∧ w = w') from fun w => width_any 5 w)
  obtain ⟨a1, c1, z1, hb1, hc1, hn1⟩ := bs_sub hb hc hnil 0 q (by omega) hm
  obtain ⟨a2, c2, z2, hb2, hc2, hn2, ho2⟩ := bs_from0 hb hc hnil q hm
  rw [Nat.sub_zero, List.drop_zero] at hb1
  have z1 : ∀ w', (Instr.sliceAt 27 (.slice a m c) (some (.int .i64 0)) (some (.int .i64 (q : Int))) none).run Tryd.prog w' = .ok (.slice a1 q c1) w' := z1
  have HIN := hid (fun (wy : World) (B : Below w.heap.size w wy) => (show Bs wy (.slice a1 q c1) (l.take q) ∧ InTo w a (l.drop q) 0 (.agg #[.slice a2 (m - q) c2, .int .i64 0]) wy from by
    have hl := hb.len
    have e : (l.drop q).length = m - q := by rw [List.length_drop]; omega
    exact ⟨hb1.below B, a2, c2, by rw [e], by rw [e]; exact hb2.below B, by rw [e]; exact hc2, hn2, B, srcD ho2⟩))
  generalize hmr : m - q = r at *
  clear hb1 hb2 hc1 hc2 hn1 hn2 ho2 hb hnil hmr
  obtain ⟨w1, hw1⟩ : ∃ z, z = ((w.alloc (.cells #[.slice a m c, .int .i64 0] 43)).alloc (.cells #[.int .i64 5, .int .u64 x, .int .i64 (q : Int), .slice ao n cr] 33)).alloc (.cells #[.slice none 0 0, .int .i64 0] 43) := ⟨_, rfl⟩
  have HQ := hid (show RqAt w w1 a m c 0 5 x (q : Int) from by rw [hw1]; exact rq_at w a ao m c n cr 0 5 x (q : Int))
  obtain ⟨_, s0, s1, o0, o2, _, r0, r1, f0, f1, siz⟩ := HQ.out
  unfold inV
  go_enter Tryd.func18, Tryd.ntmps18
  go_upto_region 1 with fail
  change Code.wp _ _ _ _ (((w.alloc (.cells #[.slice a m c, .int .i64 0] 43)).alloc (.cells #[.int .i64 5, .int .u64 x, .int .i64 (q : Int), .slice ao n cr] 33)).alloc (.cells #[.slice none 0 0, .int .i64 0] 43))
  rw [← hw1]
  clear hw1
  go_wp2_with fail
  refine (HX.out w1).mono ?_
  rintro e w2 ⟨rfl, rfl⟩
  go_upto_region 18 with fail
  obtain ⟨wx, hwx⟩ : ∃ q, q = w1.alloc (.cells #[.slice a2 r c2, .int .i64 0] 43) := ⟨_, rfl⟩
  have HBX := hid (show Below (w.heap.size + 1 + 1 + 1) w1 wx from by rw [hwx, ← siz]; exact (Below.refl _ _).alloc (Nat.le_refl _) _)
  have hnx : wx.heap[w.heap.size + 1 + 1 + 1]? = some (.cells #[.slice a2 r c2, .int .i64 0] 43 (0, 0)) := by rw [hwx, ← siz]; exact heap_new _ _
  have d0 : wx.cell? ⟨w.heap.size + 1 + 1 + 1, 0, none⟩ = some (.slice a2 r c2) := by rw [cell_of_heap hnx]; rfl
  have d1 : wx.cell? ⟨w.heap.size + 1 + 1 + 1, 1, none⟩ = some (.int .i64 0) := by rw [cell_of_heap hnx]; rfl
  have hrx : wx.heap[w.heap.size + 1 + 1]? = w1.heap[w.heap.size + 1 + 1]? := HBX.out.block _ (by omega)
  have x0 : wx.cell? ⟨w.heap.size + 1 + 1, 0, none⟩ = some (.slice none 0 0) := (World.cell?_of_block (a := ⟨w.heap.size + 1 + 1, 0, none⟩) hrx).trans r0
  have x1 : wx.cell? ⟨w.heap.size + 1 + 1, 1, none⟩ = some (.int .i64 0) := (World.cell?_of_block (a := ⟨w.heap.size + 1 + 1, 1, none⟩) hrx).trans r1
  have y0 : wx.frozen? ⟨w.heap.size + 1 + 1, 0, none⟩ = false := (World.frozen?_of_block (a := ⟨w.heap.size + 1 + 1, 0, none⟩) hrx).trans f0
  have y1 : wx.frozen? ⟨w.heap.size + 1 + 1, 1, none⟩ = false := (World.frozen?_of_block (a := ⟨w.heap.size + 1 + 1, 1, none⟩) hrx).trans f1
  have HWX := hid (show Below w.heap.size w wx.drew from (HQ.out.bel.trans (HBX.out.mono (by omega))).trans (bel_drewN (Below.refl _ _) 1))
  rw [← hwx]
  clear hwx hnx hrx s0 s1 o0 o2 r0 r1 f0 f1
  go_region
  all_goals go_wp2
  all_goals
    have hd := rq_done HQ.out HBX.out (.slice a2 r c2) 0
    exact bodyPost_ret (v := .tuple #[.int .u64 0, .slice a1 q c1, .agg #[.slice a2 r c2, .int .i64 0]]) (results_ttc Tryd.results18 rfl hd.1 rfl rfl) rfl ⟨a1, c1, _, rfl, (HIN.out _ hd.2).1, (HIN.out _ hd.2).2⟩
end Go.Proofs.YtdjnjmekdjcbaaaDoor

namespace Go.Proofs.YtdjnjmekdjcbaaaDoor
open Go Go.RowKit
set_option linter.unusedVariables false

set_option maxRecDepth 100000 in
set_option maxHeartbeats 4000000 in
theorem rread_text2 (x nn : Int) (a ao : Option Addr) (m c n cr : Nat) (w : World) (h2 : (m : Int) < 2) :
    Calls Tryd.prog 18 #[inV a m c 0, .agg #[.int .i64 6, .int .u64 x, .int .i64 nn, .slice ao n cr]] w fun e w' => e = .returned (.tuple #[.int .u64 0, .slice none 0 0, inV a m c 4]) ∧ Below w.heap.size w w' := by
  have HX := hid (show ∀ w : World, Calls Tryd.prog 49 #[.int .i64 6] w (fun e w' => e = .returned (.int .i64 0) ∧ w = w') from fun w => width_any 6 w)
  obtain ⟨w1, hw1⟩ : ∃ q, q = ((w.alloc (.cells #[.slice a m c, .int .i64 0] 43)).alloc (.cells #[.int .i64 6, .int .u64 x, .int .i64 nn, .slice ao n cr] 33)).alloc (.cells #[.slice none 0 0, .int .i64 0] 43) := ⟨_, rfl⟩
  have HQ := hid (show RqAt w w1 a m c 0 6 x nn from by rw [hw1]; exact rq_at w a ao m c n cr 0 6 x nn)
  obtain ⟨_, s0, s1, o0, o2, _, r0, r1, f0, f1, siz⟩ := HQ.out
  unfold inV
  go_enter Tryd.func18, Tryd.ntmps18
  go_upto_region 1 with fail
  change Code.wp _ _ _ _ (((w.alloc (.cells #[.slice a m c, .int .i64 0] 43)).alloc (.cells #[.int .i64 6, .int .u64 x, .int .i64 nn, .slice ao n cr] 33)).alloc (.cells #[.slice none 0 0, .int .i64 0] 43))
  rw [← hw1]
  clear hw1
  go_wp2_with fail
  refine (HX.out w1).mono ?_
  rintro e w2 ⟨rfl, rfl⟩
  go_wp2
  go_region
  go_wp2
  have hd := rq_done HQ.out (Below.refl _ _) (.slice a m c) 4
  exact bodyPost_ret (v := .tuple #[.int .u64 0, .slice none 0 0, .agg #[.slice a m c, .int .i64 4]]) (results_ttc Tryd.results18 rfl hd.1 rfl rfl) rfl ⟨rfl, hd.2⟩

set_option maxRecDepth 100000 in
set_option maxHeartbeats 4000000 in
theorem rread_textbad (x nn : Int) (a ao : Option Addr) (m c n cr v : Nat) (l : List Nat) (w : World) (hb : Bs w (.slice a m c) l) (hc : m ≤ c) (h2 : 2 ≤ m) (hv0 : beV (l.take 2) (l.take 2).length = v) (hm2 : m ≤ 100000000000) (hs : m < 2 + v) :
    Calls Tryd.prog 18 #[inV a m c 0, .agg #[.int .i64 6, .int .u64 x, .int .i64 nn, .slice ao n cr]] w fun e w' => e = .returned (.tuple #[.int .u64 0, .slice none 0 0, inV a m c 4]) ∧ Below w.heap.size w w' := by
  have HX := hid (show ∀ w : World, Calls Tryd.prog 49 #[.int .i64 6] w (fun e w' => e = .returned (.int .i64 0) ∧ w = w') from fun w => width_any 6 w)
  have z0 : ∀ w', (Instr.sliceAt 27 (.slice a m c) none (some (.int .i64 2)) none).run Tryd.prog w' = .ok (.slice a 2 c) w' := by
    intro w'
    have u1 : (2 : Int) ≤ (c : Int) := by omega
    cases a <;> simp [go_sem, Tryd.underlying27, u1]
  have hb0 := bs_upto hb 2 h2
  have hl2 : (l.take 2).length = 2 := hb0.len.symm
  have hv : beV (l.take 2) 2 = v := by rw [← hv0, hl2]
  have hvl : v < 65536 := by
    have h := beV_lt (l.take 2) hb0.lt 2
    rw [hv] at h
    simpa using h
  have HVL := hid (fun (wy : World) (B : Below w.heap.size w wy) => (show Calls Tryd.prog 58 #[.slice a 2 c] wy (fun e w' => e = .returned (.int .u64 (v : Int)) ∧ wy = w') from by
    rw [← hv0]
    exact value_any8 a 2 c (l.take 2) wy (hb0.below B) (by omega)))
  have tv : IntKind.i64.wrap (v : Int) = (v : Int) := by rw [IntKind.wrap_i64]; omega
  have tm : IntKind.i64.wrap (m : Int) = (m : Int) := by rw [IntKind.wrap_i64]; omega
  have tm2 : IntKind.i64.wrap ((m : Int) - 2) = (m : Int) - 2 := by rw [IntKind.wrap_i64]; omega
  have hI2 : ¬ ((m : Int) < 2) := by omega
  have hv1 : ¬ ((v : Int) < 0) := by omega
  have hs1 : (m : Int) - 2 < (v : Int) := by omega
  clear hb hb0 hl2 hv hv0
  obtain ⟨w1, hw1⟩ : ∃ q, q = ((w.alloc (.cells #[.slice a m c, .int .i64 0] 43)).alloc (.cells #[.int .i64 6, .int .u64 x, .int .i64 nn, .slice ao n cr] 33)).alloc (.cells #[.slice none 0 0, .int .i64 0] 43) := ⟨_, rfl⟩
  have HQ := hid (show RqAt w w1 a m c 0 6 x nn from by rw [hw1]; exact rq_at w a ao m c n cr 0 6 x nn)
  obtain ⟨_, s0, s1, o0, o2, _, r0, r1, f0, f1, siz⟩ := HQ.out
  unfold inV
  go_enter Tryd.func18, Tryd.ntmps18
  go_upto_region 1 with fail
  change Code.wp _ _ _ _ (((w.alloc (.cells #[.slice a m c, .int .i64 0] 43)).alloc (.cells #[.int .i64 6, .int .u64 x, .int .i64 nn, .slice ao n cr] 33)).alloc (.cells #[.slice none 0 0, .int .i64 0] 43))
  rw [← hw1]
  clear hw1
  go_wp2_with fail
  refine (HX.out w1).mono ?_
  rintro e w2 ⟨rfl, rfl⟩
  go_wp2_with fail
  refine (HVL.out w1 HQ.out.bel).mono ?_
  rintro e w2 ⟨rfl, rfl⟩
  go_wp2
  go_region
  go_wp2
  have hd := rq_done HQ.out (Below.refl _ _) (.slice a m c) 4
  exact bodyPost_ret (v := .tuple #[.int .u64 0, .slice none 0 0, .agg #[.slice a m c, .int .i64 4]]) (results_ttc Tryd.results18 rfl hd.1 rfl rfl) rfl ⟨rfl, hd.2⟩

set_option maxRecDepth 100000 in
set_option maxHeartbeats 4000000 in
theorem rread_textok (x nn : Int) (a ao : Option Addr) (m c n cr v : Nat) (l : List Nat) (w : World) (hb : Bs w (.slice a m c) l) (hc : m ≤ c) (hnil : a = none → c = 0) (h2 : 2 ≤ m) (hv0 : beV (l.take 2) (l.take 2).length = v) (hm2 : m ≤ 100000000000) (hs : 2 + v ≤ m) :
    Calls Tryd.prog 18 #[inV a m c 0, .agg #[.int .i64 6, .int .u64 x, .int .i64 nn, .slice ao n cr]] w fun e w' => ∃ a1 c1 u, e = .returned (.tuple #[.int .u64 0, .slice a1 v c1, u]) ∧ Bs w' (.slice a1 v c1) ((l.drop 2).take v) ∧ InTo w a ((l.drop 2).drop v) 0 u w' := by
  have HX := hid (show ∀ w : World, Calls Tryd.prog 49 #[.int .i64 6] w (fun e w' => e = .returned (.int .i64 0) ∧ w = w') from fun w => width_any 6 w)
  have z0 : ∀ w', (Instr.sliceAt 27 (.slice a m c) none (some (.int .i64 2)) none).run Tryd.prog w' = .ok (.slice a 2 c) w' := by
    intro w'
    have u1 : (2 : Int) ≤ (c : Int) := by omega
    cases a <;> simp [go_sem, Tryd.underlying27, u1]
  have hb0 := bs_upto hb 2 h2
  have hl2 : (l.take 2).length = 2 := hb0.len.symm
  have hv : beV (l.take 2) 2 = v := by rw [← hv0, hl2]
  have hvl : v < 65536 := by
    have h := beV_lt (l.take 2) hb0.lt 2
    rw [hv] at h
    simpa using h
  have HVL := hid (fun (wy : World) (B : Below w.heap.size w wy) => (show Calls Tryd.prog 58 #[.slice a 2 c] wy (fun e w' => e = .returned (.int .u64 (v : Int)) ∧ wy = w') from by
    rw [← hv0]
    exact value_any8 a 2 c (l.take 2) wy (hb0.below B) (by omega)))
  have tv : IntKind.i64.wrap (v : Int) = (v : Int) := by rw [IntKind.wrap_i64]; omega
  have tm : IntKind.i64.wrap (m : Int) = (m : Int) := by rw [IntKind.wrap_i64]; omega
  have tm2 : IntKind.i64.wrap ((m : Int) - 2) = (m : Int) - 2 := by rw [IntKind.wrap_i64]; omega
  have hI2 : ¬ ((m : Int) < 2) := by omega
  have hv1 : ¬ ((v : Int) < 0) := by omega
  have hs1 : ¬ ((m : Int) - 2 < (v : Int)) := by omega
  obtain ⟨q, hq⟩ : ∃ q, q = 2 + v := ⟨_, rfl⟩
  obtain ⟨a1, c1, z1, hb1, hc1, hn1⟩ := bs_sub hb hc hnil 2 q (by omega) (by omega)
  obtain ⟨a2, c2, z2, hb2, hc2, hn2, ho2⟩ := bs_from0 hb hc hnil q (by omega)
  have hqv : q - 2 = v := by omega
  rw [hqv] at hb1 z1 hc1
  have z1 : ∀ w', (Instr.sliceAt 27 (.slice a m c) (some (.int .i64 2)) (some (.int .i64 (q : Int))) none).run Tryd.prog w' = .ok (.slice a1 v c1) w' := z1
  have tq : IntKind.i64.wrap (2 + (v : Int)) = (q : Int) := by rw [IntKind.wrap_i64]; omega
  have tq1 : 2 + (v : Int) = (q : Int) := by omega
  have tq2 : IntKind.i64.wrap (q : Int) = (q : Int) := by rw [IntKind.wrap_i64]; omega
  have HIN := hid (fun (wy : World) (B : Below w.heap.size w wy) => (show Bs wy (.slice a1 v c1) ((l.drop 2).take v) ∧ InTo w a ((l.drop 2).drop v) 0 (.agg #[.slice a2 (m - q) c2, .int .i64 0]) wy from by
    have hl := hb.len
    rw [List.drop_drop, ← hq]
    have e : (l.drop q).length = m - q := by rw [List.length_drop]; omega
    exact ⟨hb1.below B, a2, c2, by rw [e], by rw [e]; exact hb2.below B, by rw [e]; exact hc2, hn2, B, srcD ho2⟩))
  generalize hmr : m - q = r at *
  clear hb hb0 hl2 hv hv0 hb1 hb2 hc1 hc2 hn1 hn2 ho2 hnil hmr hqv hq
  obtain ⟨w1, hw1⟩ : ∃ z, z = ((w.alloc (.cells #[.slice a m c, .int .i64 0] 43)).alloc (.cells #[.int .i64 6, .int .u64 x, .int .i64 nn, .slice ao n cr] 33)).alloc (.cells #[.slice none 0 0, .int .i64 0] 43) := ⟨_, rfl⟩
  have HQ := hid (show RqAt w w1 a m c 0 6 x nn from by rw [hw1]; exact rq_at w a ao m c n cr 0 6 x nn)
  obtain ⟨_, s0, s1, o0, o2, _, r0, r1, f0, f1, siz⟩ := HQ.out
  unfold inV
  go_enter Tryd.func18, Tryd.ntmps18
  go_upto_region 1 with fail
  change Code.wp _ _ _ _ (((w.alloc (.cells #[.slice a m c, .int .i64 0] 43)).alloc (.cells #[.int .i64 6, .int .u64 x, .int .i64 nn, .slice ao n cr] 33)).alloc (.cells #[.slice none 0 0, .int .i64 0] 43))
  rw [← hw1]
  clear hw1
  go_wp2_with fail
  refine (HX.out w1).mono ?_
  rintro e w2 ⟨rfl, rfl⟩
  go_wp2_with fail
  refine (HVL.out w1 HQ.out.bel).mono ?_
  rintro e w2 ⟨rfl, rfl⟩
  go_upto_region 18 with fail
  obtain ⟨wx, hwx⟩ : ∃ q, q = w1.alloc (.cells #[.slice a2 r c2, .int .i64 0] 43) := ⟨_, rfl⟩
  have HBX := hid (show Below (w.heap.size + 1 + 1 + 1) w1 wx from by rw [hwx, ← siz]; exact (Below.refl _ _).alloc (Nat.le_refl _) _)
  have hnx : wx.heap[w.heap.size + 1 + 1 + 1]? = some (.cells #[.slice a2 r c2, .int .i64 0] 43 (0, 0)) := by rw [hwx, ← siz]; exact heap_new _ _
  have d0 : wx.cell? ⟨w.heap.size + 1 + 1 + 1, 0, none⟩ = some (.slice a2 r c2) := by rw [cell_of_heap hnx]; rfl
  have d1 : wx.cell? ⟨w.heap.size + 1 + 1 + 1, 1, none⟩ = some (.int .i64 0) := by rw [cell_of_heap hnx]; rfl
  have hrx : wx.heap[w.heap.size + 1 + 1]? = w1.heap[w.heap.size + 1 + 1]? := HBX.out.block _ (by omega)
  have x0 : wx.cell? ⟨w.heap.size + 1 + 1, 0, none⟩ = some (.slice none 0 0) := (World.cell?_of_block (a := ⟨w.heap.size + 1 + 1, 0, none⟩) hrx).trans r0
  have x1 : wx.cell? ⟨w.heap.size + 1 + 1, 1, none⟩ = some (.int .i64 0) := (World.cell?_of_block (a := ⟨w.heap.size + 1 + 1, 1, none⟩) hrx).trans r1
  have y0 : wx.frozen? ⟨w.heap.size + 1 + 1, 0, none⟩ = false := (World.frozen?_of_block (a := ⟨w.heap.size + 1 + 1, 0, none⟩) hrx).trans f0
  have y1 : wx.frozen? ⟨w.heap.size + 1 + 1, 1, none⟩ = false := (World.frozen?_of_block (a := ⟨w.heap.size + 1 + 1, 1, none⟩) hrx).trans f1
  have HWX := hid (show Below w.heap.size w wx.drew from (HQ.out.bel.trans (HBX.out.mono (by omega))).trans (bel_drewN (Below.refl _ _) 1))
  rw [← hwx]
  clear hwx hnx hrx s0 s1 o0 o2 r0 r1 f0 f1
  go_region
  all_goals go_wp2
  all_goals
    have hd := rq_done HQ.out HBX.out (.slice a2 r c2) 0
    exact bodyPost_ret (v := .tuple #[.int .u64 0, .slice a1 v c1, .agg #[.slice a2 r c2, .int .i64 0]]) (results_ttc Tryd.results18 rfl hd.1 rfl rfl) rfl ⟨a1, c1, _, rfl, (HIN.out _ hd.2).1, (HIN.out _ hd.2).2⟩
end Go.Proofs.YtdjnjmekdjcbaaaDoor

namespace Go.Proofs.YtdjnjmekdjcbaaaDoor
open Go Go.RowKit
set_option linter.unusedVariables false

/-- what the reference's Read answers -/
def RqTo (w : World) (a : Option Addr) (r : Nat × List Nat × List Nat × Int) (e : Ending) (w' : World) : Prop :=
  ∃ a1 c1 v, e = .returned (.tuple #[.int .u64 ((r.1 : Nat) : Int), .slice a1 r.2.1.length c1, v]) ∧ Bs w' (.slice a1 r.2.1.length c1) r.2.1 ∧ InTo w a r.2.2.1 r.2.2.2 v w'
theorem rq_bad {w w' : World} {a : Option Addr} {c : Nat} {l : List Nat} {err err0 : Int} {e : Ending} (hb : Bs w (.slice a l.length c) l) (hc : l.length ≤ c) (hnil : a = none → c = 0) (h : e = .returned (.tuple #[.int .u64 0, .slice none 0 0, inV a l.length c err]) ∧ Below w.heap.size w w') : RqTo w a (0, [], l, err) e w' :=
  ⟨none, 0, _, h.1, bs_nilH _ _ _, a, c, rfl, hb.below h.2, hc, hnil, h.2, Src.refl _⟩
theorem rtake_err (l : List Nat) (err n : Int) (h : err ≠ 0) : rtake l err n = ([], l, err) := by unfold rtake; rw [if_pos h]
theorem rnum_err (l : List Nat) (err n : Int) (h : err ≠ 0) : rnum l err n = 0 := by unfold rnum; rw [rtake_err l err n h]; rfl
theorem rtake_short (l : List Nat) (q : Nat) (h : l.length < q) : rtake l 0 (q : Int) = ([], l, 4) := by
  unfold rtake
  rw [if_neg (by simp), if_neg (by omega), if_pos (by omega)]
theorem rtake_ok (l : List Nat) (q : Nat) (h : q ≤ l.length) : rtake l 0 (q : Int) = (l.take q, l.drop q, 0) := by
  unfold rtake
  rw [if_neg (by simp), if_neg (by omega), if_neg (by omega), Int.toNat_natCast]
theorem rop_err (l : List Nat) (err k nn : Int) (h : err ≠ 0) : rop l err k nn = (0, [], l, err) := by
  have ht : rtext l err = ([], l, err) := by
    unfold rtext
    simp only [rtake_err l err _ h, rnum_err l err _ h]
    rw [if_pos h]
  unfold rop
  simp only [rtake_err l err _ h, rnum_err l err _ h, ht]
  split
  · rfl
  · split
    · rfl
    · split
      · rfl
      · split
        · rfl
        · split
          · rfl
          · split <;> rfl
theorem rread_any (k x nn err : Int) (a ao : Option Addr) (c n cr : Nat) (l : List Nat) (w : World) (hb : Bs w (.slice a l.length c) l) (hc : l.length ≤ c) (hnil : a = none → c = 0) (hm2 : l.length ≤ 100000000000) :
    Calls Tryd.prog 18 #[inV a l.length c err, .agg #[.int .i64 k, .int .u64 x, .int .i64 nn, .slice ao n cr]] w fun e w' => RqTo w a (rop l err k nn) e w' := by
  by_cases he : err = 0
  case neg =>
    rw [rop_err l err k nn he]
    exact (rread_err k x nn err a ao _ c n cr w he).mono fun e w' h => rq_bad (err0 := 0) hb hc hnil h
  subst he
  have num : ∀ (q : Nat), (k = 1 ∧ q = 1) ∨ (k = 2 ∧ q = 2) ∨ (k = 3 ∧ q = 4) ∨ (k = 4 ∧ q = 8) → rop l 0 k nn = (rnum l 0 (q : Int), [], (rtake l 0 (q : Int)).2) := fun q h => by
    obtain ⟨rfl, rfl⟩ | ⟨rfl, rfl⟩ | ⟨rfl, rfl⟩ | ⟨rfl, rfl⟩ := h <;> rfl
  have short : ∀ (q : Nat), (k = 1 ∧ q = 1) ∨ (k = 2 ∧ q = 2) ∨ (k = 3 ∧ q = 4) ∨ (k = 4 ∧ q = 8) → l.length < q → Calls Tryd.prog 18 #[inV a l.length c 0, .agg #[.int .i64 k, .int .u64 x, .int .i64 nn, .slice ao n cr]] w fun e w' => RqTo w a (rop l 0 k nn) e w' := fun q h hs => by
    rw [num q h, show rnum l 0 (q : Int) = 0 from by unfold rnum; rw [rtake_short l q hs]; rfl, rtake_short l q hs]
    exact (rread_short k nn q x a ao _ c n cr w h (by omega)).mono fun e w' h => rq_bad (err0 := 0) hb hc hnil h
  have ok : ∀ (q : Nat), (k = 1 ∧ q = 1) ∨ (k = 2 ∧ q = 2) ∨ (k = 3 ∧ q = 4) ∨ (k = 4 ∧ q = 8) → q ≤ l.length → rop l 0 k nn = (beV (l.take q) (l.take q).length, [], l.drop q, 0) := fun q h hs => by
    rw [num q h]
    unfold rnum
    rw [rtake_ok l q hs]
  have fin : ∀ (q : Nat), (k = 1 ∧ q = 1) ∨ (k = 2 ∧ q = 2) ∨ (k = 3 ∧ q = 4) ∨ (k = 4 ∧ q = 8) → q ≤ l.length → ∀ e w', (∃ v, e = .returned (.tuple #[.int .u64 ((beV (l.take q) (l.take q).length : Nat) : Int), .slice none 0 0, v]) ∧ InTo w a (l.drop q) 0 v w') → RqTo w a (rop l 0 k nn) e w' := fun q h hs e w' hv => by
    rw [ok q h hs]
    obtain ⟨v, h1, h2⟩ := hv
    exact ⟨none, 0, v, h1, bs_nilH _ _ _, h2⟩
  by_cases h1 : k = 1
  · by_cases hs : l.length < 1
    · exact short 1 (.inl ⟨h1, rfl⟩) hs
    · have hf := fin 1 (.inl ⟨h1, rfl⟩) (by omega)
      subst h1
      exact (rread_num1 x nn a ao _ c n cr l w hb hc hnil (by omega) hm2).mono hf
  by_cases h2 : k = 2
  · by_cases hs : l.length < 2
    · exact short 2 (.inr (.inl ⟨h2, rfl⟩)) hs
    · have hf := fin 2 (.inr (.inl ⟨h2, rfl⟩)) (by omega)
      subst h2
      exact (rread_num2 x nn a ao _ c n cr l w hb hc hnil (by omega) hm2).mono hf
  by_cases h3 : k = 3
  · by_cases hs : l.length < 4
    · exact short 4 (.inr (.inr (.inl ⟨h3, rfl⟩))) hs
    · have hf := fin 4 (.inr (.inr (.inl ⟨h3, rfl⟩))) (by omega)
      subst h3
      exact (rread_num3 x nn a ao _ c n cr l w hb hc hnil (by omega) hm2).mono hf
  by_cases h4 : k = 4
  · by_cases hs : l.length < 8
    · exact short 8 (.inr (.inr (.inr ⟨h4, rfl⟩))) hs
    · have hf := fin 8 (.inr (.inr (.inr ⟨h4, rfl⟩))) (by omega)
      subst h4
      exact (rread_num4 x nn a ao _ c n cr l w hb hc hnil (by omega) hm2).mono hf
  by_cases h5 : k = 5
  · subst h5
    rw [show rop l 0 5 nn = (0, rtake l 0 nn) from rfl]
    by_cases hn : nn < 0
    · rw [show rtake l 0 nn = ([], l, 2) from by unfold rtake; rw [if_neg (by simp), if_pos hn]]
      exact (rread_rawbad x nn 2 a ao _ c n cr w hm2 (.inl ⟨hn, rfl⟩)).mono fun e w' h => rq_bad (err0 := 0) hb hc hnil h
    · obtain ⟨q, rfl⟩ : ∃ q : Nat, nn = (q : Int) := ⟨nn.toNat, by omega⟩
      by_cases hs : l.length < q
      · rw [rtake_short l q hs]
        exact (rread_rawbad x q 4 a ao _ c n cr w hm2 (.inr ⟨by omega, rfl⟩)).mono fun e w' h => rq_bad (err0 := 0) hb hc hnil h
      · rw [rtake_ok l q (by omega)]
        refine (rread_rawok x q a ao _ c n cr l w hb hc hnil (by omega) hm2).mono fun e w' h => ?_
        obtain ⟨a1, c1, v, h1, h2, h3⟩ := h
        have e1 : (l.take q).length = q := by rw [List.length_take, Nat.min_eq_left (by omega)]
        exact ⟨a1, c1, v, by rw [h1]; simp only [e1]; rfl, by simp only [e1]; exact h2, h3⟩
  by_cases h6 : k = 6
  · subst h6
    rw [show rop l 0 6 nn = (0, rtext l 0) from rfl]
    by_cases h2m : l.length < 2
    · have ht : rtext l 0 = ([], l, 4) := by
        unfold rtext
        rw [show (2 : Int) = ((2 : Nat) : Int) from rfl, rtake_short l 2 h2m]
        simp only [rtake_err _ 4 _ (by decide)]
        rw [if_pos (by simp)]
      rw [ht]
      exact (rread_text2 x nn a ao _ c n cr w (by omega)).mono fun e w' h => rq_bad (err0 := 0) hb hc hnil h
    · have hr : rnum l 0 2 = beV (l.take 2) (l.take 2).length := by
        unfold rnum
        rw [show (2 : Int) = ((2 : Nat) : Int) from rfl, rtake_ok l 2 (by omega)]
      obtain ⟨v, hv⟩ : ∃ v, v = beV (l.take 2) (l.take 2).length := ⟨_, rfl⟩
      have ht : rtext l 0 = if (rtake (l.drop 2) 0 (v : Int)).2.2 ≠ 0 then ((rtake (l.drop 2) 0 (v : Int)).1, l, (rtake (l.drop 2) 0 (v : Int)).2.2) else rtake (l.drop 2) 0 (v : Int) := by
        unfold rtext
        rw [hr, ← hv, show (2 : Int) = ((2 : Nat) : Int) from rfl, rtake_ok l 2 (by omega)]
      have hdl : (l.drop 2).length = l.length - 2 := List.length_drop
      by_cases hs : l.length < 2 + v
      · rw [ht, rtake_short (l.drop 2) v (by omega), if_pos (by simp)]
        exact (rread_textbad x nn a ao _ c n cr v l w hb hc (by omega) hv.symm hm2 hs).mono fun e w' h => rq_bad (err0 := 0) hb hc hnil h
      · rw [ht, rtake_ok (l.drop 2) v (by omega), if_neg (by simp)]
        refine (rread_textok x nn a ao _ c n cr v l w hb hc hnil (by omega) hv.symm hm2 (by omega)).mono fun e w' h => ?_
        obtain ⟨a1, c1, u, h1, h2, h3⟩ := h
        have e1 : ((l.drop 2).take v).length = v := by rw [List.length_take, Nat.min_eq_left (by omega)]
        exact ⟨a1, c1, u, by rw [h1]; simp only [e1]; rfl, by simp only [e1]; exact h2, h3⟩
  · have hro : rop l 0 k nn = (0, [], l, 0) := by
      unfold rop
      rw [if_neg h1, if_neg h2, if_neg h3, if_neg h4, if_neg h5, if_neg h6]
    rw [hro]
    exact (rread_kind k x nn a ao _ c n cr w (by omega)).mono fun e w' h => rq_bad (err0 := 0) hb hc hnil h
end Go.Proofs.YtdjnjmekdjcbaaaDoor
