/-
  own and same of the laws, SameMatrix and Good of the reference.
-/
import Derived.Test.YtfleplbdcpdphaaMatF
import Derived.Test.YtfleplbdcpdphaaBuf
import Derived.Test.YtfleplbdcpdphaaKnown
import Derived.Deep.RegionLaw
import Derived.Deep.RegionHeld3
namespace Go.Proofs.Ytfleplbdcpdphaa
open Go Go.RowKit
set_option linter.unusedVariables false

/-- append([]byte{}, x...) as one step of a region that draws its order -/
theorem step_clone {w : World} {ops : Array Oper} {o : Oper} {a : Act} {K : Act → World → Prop} {Q : Exit → Act → World → Prop} {E : Prop} (hgd : o.guard = none) (s x : Operand)
    (ho : o.op = .call { callee := .builtin .append, args := #[s, x], argTypes := #[27, 27] }) (g0 : Nat) (hs : a.eval s = .slice (some ⟨g0, 0, none⟩) 0 0) (hg0 : w.heap[g0]? = some (.cells #[] 5 (0, 0)))
    (sa : Option Addr) (m c : Nat) (l : List Nat) (hx : a.eval x = .slice sa m c) (hb : Bs w (.slice sa m c) l) (hnil : sa = none → c = 0) (hm : m ≤ 4611686018427)
    (h : ∀ a' c' w', Bs w' (.slice a' m c') l → m ≤ c' → (∀ ad, a' = some ad → g0 ≤ ad.block ∧ ad.block < w'.heap.size) → (a' = none → c' = 0) → Kept g0 w w' → w'.ownsRow g0 5 1 (.slice a' m c') m (u8s l) → K (a.put o.dst (.slice a' m c')) w') :
    if Region.wanted o (yielded ops a.tmps) = true then Oper.wp Try.prog o a w K Q else E := by
  have hw : Region.wanted o (yielded ops a.tmps) = true := by simp [Region.wanted, hgd]
  rw [if_pos hw]
  obtain ⟨i0, hi, hz0, hz1, hz2⟩ := info_parts info5
  have hown : w.ownsRow g0 5 1 (.slice (some ⟨g0, 0, none⟩) 0 0) 0 [] := ⟨rfl, .inr ⟨g0, 0, #[], rfl, Nat.le_refl _, hg0, Nat.le_refl _, Nat.zero_le _, rfl, rfl⟩⟩
  have hlt := lt_of_heap hg0
  have hl : ∀ n ∈ l, n < 256 := by obtain ⟨_, _, _, h, _⟩ := hb; exact h
  have hlen := hb.len
  cases sa with
  | none =>
    obtain rfl := hnil rfl
    rcases hb.addr with ⟨h0, _⟩ | ⟨_, b, o, c', hv⟩
    · subst h0
      obtain rfl : m = 0 := hlen
      have hrun := run_append_owned_none (P := Try.prog) (w := w) g0 27 o.type 5 i0 1 Try.underlying27 hi _ 0 [] hown
      unfold Oper.wp
      simp [execOp, ho, resolve, invoke, builtin, hs, hx, hrun, Result.andThen]
      exact h _ _ _ ⟨_, 0, rfl, fun n hn => absurd hn List.not_mem_nil, fun e => absurd rfl e⟩ (Nat.le_refl _) (fun ad h => by cases h; exact ⟨Nat.le_refl _, hlt⟩) (fun h => by cases h) (Kept.refl _ _) hown
    · simp at hv
  | some ad =>
    have hnews : ∀ j u, (u8s l)[j]? = some u → w.cell? (ad.add j) = some u := fun j u hj => by
      have hjl : j < l.length := by have := (List.getElem?_eq_some_iff.1 hj).1; simpa [u8s] using this
      rcases hb.addr with ⟨h0, _⟩ | ⟨_, b, o, c', hv⟩
      · rw [h0] at hjl; exact absurd hjl (Nat.not_lt_zero _)
      · simp only [Value.slice.injEq, Option.some.injEq] at hv
        obtain ⟨rfl, _, _⟩ := hv
        have hc := hb.cell j hjl
        have e : (⟨b, o, none⟩ : Addr).add j = ⟨b, o + j, none⟩ := by unfold Addr.add; split <;> simp_all
        rw [e, hc, ← hj]
        simp [u8s, List.getElem?_eq_getElem hjl]
    refine wp_append_own w s x _ ho g0 5 i0 (.int .u8 0) 1 1 Try.underlying27 hi hz0 hz1 hz2 rfl (by decide) _ 0 [] hs hown ad m c (u8s l) hx (by simp [u8s]; omega) hnews (fun u hu => by
      unfold u8s at hu
      obtain ⟨y, _, rfl⟩ := List.mem_map.1 hu
      rfl) (by unfold maxLen; omega) (by omega) (by omega) ?_
    intro v' w' hown' hg hn
    rw [Nat.zero_add, List.nil_append] at hown'
    have hown2 := hown'
    obtain ⟨a', c', rfl, hm', hmc, hb', hbl⟩ := bs_of_owns hown' hl
    refine h a' c' w' hb' hmc hbl (fun e => ?_) ⟨hg.os, hg.tape, hg.output, hg.size, fun k hk hkg => hg.block k hk (by intro e; exact hkg (Option.some.inj e))⟩ hown2
    subst e
    obtain ⟨_, h2⟩ := hown'
    rcases h2 with ⟨h3, _⟩ | ⟨g, cap, cur, h3, _⟩
    · simp at h3; exact h3.2
    · simp at h3
/-- the cells of a struct of three -/
structure C3 (w : World) (b : Nat) (x y z : Value) : Prop where
  c0 : w.cell? ⟨b, 0, none⟩ = some x
  c1 : w.cell? ⟨b, 1, none⟩ = some y
  c2 : w.cell? ⟨b, 2, none⟩ = some z
  f0 : w.frozen? ⟨b, 0, none⟩ = false
  f1 : w.frozen? ⟨b, 1, none⟩ = false
  f2 : w.frozen? ⟨b, 2, none⟩ = false
theorem c3_of {w : World} {b : Nat} {x y z : Value} {t : TypeId} (h : w.heap[b]? = some (.cells #[x, y, z] t (0, 0))) : C3 w b x y z :=
  ⟨cell_of_heap h 0, cell_of_heap h 1, cell_of_heap h 2, free_of_heap h 0, free_of_heap h 1, free_of_heap h 2⟩

theorem Bs.set_off {w : World} {v : Value} {l : List Nat} (h : Bs w v l) {b : Nat} (ho : Off b v) (i : Nat) (u : Value) : Bs (w.setCell ⟨b, i, none⟩ u) v l :=
  h.kept (Kept.setCell (Kept.refl b w) rfl u) ho
/-- a call's argument and its result, both structs of three, stand as they were -/
theorem keep33 {B : Nat} {w1 w' : World} {x y z x' y' z' : Value} {t : TypeId} (h0 : w1.heap[B]? = some (.cells #[x, y, z] t (0, 0))) (h1 : w1.heap[B + 1]? = some (.cells #[x', y', z'] t (0, 0))) (hb : Below w1.heap.size w1 w') :
    w'.cell? ⟨B, 0, none⟩ = some x ∧ w'.cell? ⟨B, 1, none⟩ = some y ∧ w'.cell? ⟨B, 2, none⟩ = some z ∧ w'.cell? ⟨B + 1, 0, none⟩ = some x' ∧ w'.cell? ⟨B + 1, 1, none⟩ = some y' ∧ w'.cell? ⟨B + 1, 2, none⟩ = some z' ∧ w'.frozen? ⟨B + 1, 0, none⟩ = false ∧ w'.frozen? ⟨B + 1, 1, none⟩ = false ∧ w'.frozen? ⟨B + 1, 2, none⟩ = false := by
  obtain ⟨a0, a1, a2, _, _, _⟩ := c3_of ((hb.block B (lt_of_heap h0)).trans h0)
  obtain ⟨b0, b1, b2, g0, g1, g2⟩ := c3_of ((hb.block (B + 1) (lt_of_heap h1)).trans h1)
  exact ⟨a0, a1, a2, b0, b1, b2, g0, g1, g2⟩

theorem keep3 {B : Nat} {w1 w' : World} {x y z : Value} {t : TypeId} (h0 : w1.heap[B]? = some (.cells #[x, y, z] t (0, 0))) (hb : Below w1.heap.size w1 w') :
    w'.cell? ⟨B, 0, none⟩ = some x ∧ w'.cell? ⟨B, 1, none⟩ = some y ∧ w'.cell? ⟨B, 2, none⟩ = some z := by
  obtain ⟨a0, a1, a2, _, _, _⟩ := c3_of ((hb.block B (lt_of_heap h0)).trans h0)
  exact ⟨a0, a1, a2⟩

set_option maxRecDepth 100000 in
set_option maxHeartbeats 1000000 in
theorem own_any (r c : Int) (a : Option Addr) (n cap : Nat) (l : List Nat) (w : World) (hb : Bs w (.slice a n cap) l) (hnil : a = none → cap = 0) (hn : n ≤ 1000000) :
    Calls Try.prog 58 #[.agg #[.int .i64 r, .int .i64 c, .slice a n cap]] w fun e w' => ∃ a' c', e = .returned (.agg #[.int .i64 r, .int .i64 c, .slice a' n c']) ∧ n ≤ c' ∧ Bs w' (.slice a' n c') l ∧ (∀ ad, a' = some ad → w.heap.size ≤ ad.block) ∧ (a' = none → c' = 0) ∧ Below w.heap.size w w' := by
  obtain ⟨w1, hw1⟩ : ∃ w1, w1 = (w.alloc (Obj.cells #[.int .i64 r, .int .i64 c, .slice a n cap] 52)).alloc (Obj.cells #[.int .i64 0, .int .i64 0, .slice none 0 0] 52) := ⟨_, rfl⟩
  have hbel : Below w.heap.size w w1 := by rw [hw1]; exact ((Below.refl _ _).alloc (Nat.le_refl _) _).alloc (by simp) _
  have h0 : w1.heap[w.heap.size]? = some (Obj.cells #[.int .i64 r, .int .i64 c, .slice a n cap] 52) := by rw [hw1]; exact heap_alloc (heap_new _ _) _
  have h1 : w1.heap[w.heap.size + 1]? = some (Obj.cells #[.int .i64 0, .int .i64 0, .slice none 0 0] 52) := by
    rw [hw1]
    have h5 := heap_new (w.alloc (Obj.cells #[.int .i64 r, .int .i64 c, .slice a n cap] 52)) (Obj.cells #[.int .i64 0, .int .i64 0, .slice none 0 0] 52)
    rwa [World.size_alloc] at h5
  have hs1 : w1.heap.size = w.heap.size + 2 := by rw [hw1]; simp
  obtain ⟨c0, c1, c2, _, _, _⟩ := c3_of h0
  obtain ⟨d0, d1, d2, f0, f1, f2⟩ := c3_of h1
  have H0 := hid h0
  have H1 := hid h1
  have HS := hid hs1
  have HB := hid (hb.below hbel)
  have HN := hid hnil
  clear h0 h1 hs1 hb hnil
  go_enter Try.func58, Try.ntmps58
  go_wp2_with fail
  rw [← hw1]
  clear hw1
  go_region_held3 (fun w' => w'.cell? ⟨w.heap.size, 0, none⟩ = some (.int .i64 r) ∧ w'.cell? ⟨w.heap.size, 1, none⟩ = some (.int .i64 c) ∧ w'.cell? ⟨w.heap.size, 2, none⟩ = some (.slice a n cap))
    (first | exact keep3 H0.out (Below.refl _ _) | exact keep3 H0.out (bel_drewN (Below.refl _ _) 1) | exact keep3 H0.out (bel_drewN ((Below.refl _ _).alloc (Nat.le_refl _) _) 1) | exact keep3 H0.out ((bel_drewN ((Below.refl _ _).alloc (Nat.le_refl _) _) 1).trans (hk2.below (by simp) (Nat.le_refl _))) | go_keep)
    ((refine step_clone rfl (.tmp 7) (.tmp 9) rfl w1.heap.size rfl (heap_new _ _) a n cap l rfl ((HB.out.drewN 1).alloc _) HN.out (by omega) ?_; intro a' c' w2 hb2 hnc2 hlow2 hnil2 hk2 hown2; obtain ⟨_, _, _, d0, d1, d2, f0, f1, f2⟩ := keep33 H0.out H1.out ((bel_drewN ((Below.refl _ _).alloc (Nat.le_refl _) _) 1).trans (hk2.below (by simp) (Nat.le_refl _)))))
  go_wp2
  have hs2 := hk2.size
  rw [World.size_drew, World.size_alloc, HS.out] at hs2
  have hoff : Off (w.heap.size + 1) (.slice a' n c') := by
    cases a' with
    | none => trivial
    | some ad => show ad.block ≠ w.heap.size + 1; have h5 := (hlow2 ad rfl).1; rw [HS.out] at h5; omega
  refine bodyPost_ret (v := .agg #[.int .i64 r, .int .i64 c, .slice a' n c']) (by simp [results, Try.results58, go_sem, d0, d1, d2]) rfl ⟨a', c', rfl, hnc2, (hb2.set_off hoff _ _).set_off hoff _ _ |>.set_off hoff _ _, fun ad h => by have h5 := (hlow2 ad h).1; rw [HS.out] at h5; omega, hnil2, ?_⟩
  exact ((hbel.trans (((bel_drewN ((Below.refl _ _).alloc (Nat.le_refl _) _) 1).trans (hk2.below (by simp) (Nat.le_refl _))).mono hbel.size)).setCell (by simp) _ |>.setCell (by simp) _).setCell (by simp) _

theorem Good_yes (r c n : Nat) (a : Option Addr) (cap : Nat) (h1 : 1 ≤ r) (h2 : r ≤ 255) (h3 : 1 ≤ c) (h4 : c ≤ 255) (hn : n = r * c) (w : World) :
    Calls Try.prog 59 #[.agg #[.int .i64 r, .int .i64 c, .slice a n cap]] w fun e w' => e = .returned (.bool true) ∧ Below w.heap.size w w' := by
  have hz := mul_nat (r := r) (c := c) rfl
  rw [← hn] at hz
  have hb : n ≤ 65025 := by rw [hn]; exact Nat.mul_le_mul h2 h4
  have HN := hid hn
  clear hn
  go_enter Try.func59, Try.ntmps59
  go_wp2
  go_ret
  exact ⟨rfl, (Below.refl _ _).alloc (Nat.le_refl _) _⟩
theorem Good_no (r c : Int) (n : Nat) (a : Option Addr) (cap : Nat) (h : ¬ (1 ≤ r ∧ r ≤ 255 ∧ 1 ≤ c ∧ c ≤ 255 ∧ (n : Int) = r * c)) (w : World) :
    Calls Try.prog 59 #[.agg #[.int .i64 r, .int .i64 c, .slice a n cap]] w fun e w' => e = .returned (.bool false) ∧ Below w.heap.size w w' := by
  by_cases h1 : 1 ≤ r
  · by_cases h2 : r ≤ 255
    · by_cases h3 : 1 ≤ c
      · by_cases h4 : c ≤ 255
        · obtain ⟨r, rfl⟩ : ∃ m : Nat, r = m := ⟨r.toNat, by omega⟩
          obtain ⟨c, rfl⟩ : ∃ m : Nat, c = m := ⟨c.toNat, by omega⟩
          have hb : r * c ≤ 65025 := Nat.mul_le_mul (show r ≤ 255 from by omega) (show c ≤ 255 from by omega)
          have hz := mul_nat (r := r) (c := c) rfl
          have hne : n ≠ r * c := fun e => h ⟨h1, h2, h3, h4, by rw [e]; rfl⟩
          clear h
          generalize r * c = z at *
          have hq : ((n : Int) == (z : Int)) = false := by rw [beq_eq_false_iff_ne]; omega
          go_enter Try.func59, Try.ntmps59
          go_wp2
          go_ret
          exact ⟨rfl, (Below.refl _ _).alloc (Nat.le_refl _) _⟩
        · clear h
          go_enter Try.func59, Try.ntmps59
          go_wp2
          go_ret
          exact ⟨rfl, (Below.refl _ _).alloc (Nat.le_refl _) _⟩
      · clear h
        go_enter Try.func59, Try.ntmps59
        go_wp2
        go_ret
        exact ⟨rfl, (Below.refl _ _).alloc (Nat.le_refl _) _⟩
    · clear h
      go_enter Try.func59, Try.ntmps59
      go_wp2
      go_ret
      exact ⟨rfl, (Below.refl _ _).alloc (Nat.le_refl _) _⟩
  · clear h
    go_enter Try.func59, Try.ntmps59
    go_wp2
    go_ret
    exact ⟨rfl, (Below.refl _ _).alloc (Nat.le_refl _) _⟩
theorem SameMatrix_yes (r c : Int) (a a' : Option Addr) (n n' cap cap' : Nat) (l : List Nat) (w : World) (hA : Bs w (.slice a n cap) l) (hB : Bs w (.slice a' n' cap') l) :
    Calls Try.prog 60 #[.agg #[.int .i64 r, .int .i64 c, .slice a n cap], .agg #[.int .i64 r, .int .i64 c, .slice a' n' cap']] w fun e w' => e = .returned (.bool true) ∧ Below w.heap.size w w' := by
  have cvA := conv_bs ((hA.alloc (Obj.cells #[.int .i64 r, .int .i64 c, .slice a n cap] 52)).alloc (Obj.cells #[.int .i64 r, .int .i64 c, .slice a' n' cap'] 52))
  have cvB := conv_bs ((hB.alloc (Obj.cells #[.int .i64 r, .int .i64 c, .slice a n cap] 52)).alloc (Obj.cells #[.int .i64 r, .int .i64 c, .slice a' n' cap'] 52))
  clear hA hB
  go_enter Try.func60, Try.ntmps60
  go_wp2
  go_ret
  exact ⟨rfl, ((Below.refl _ _).alloc (Nat.le_refl _) _).alloc (by simp) _⟩
theorem lsame_yes (r c : Int) (a a' : Option Addr) (n n' cap cap' : Nat) (l : List Nat) (w : World) (hA : Bs w (.slice a n cap) l) (hB : Bs w (.slice a' n' cap') l) :
    Calls Try.prog 73 #[.agg #[.int .i64 r, .int .i64 c, .slice a n cap], .agg #[.int .i64 r, .int .i64 c, .slice a' n' cap']] w fun e w' => e = .returned (.bool true) ∧ Below w.heap.size w w' := by
  have cvA := conv_bs ((hA.alloc (Obj.cells #[.int .i64 r, .int .i64 c, .slice a n cap] 52)).alloc (Obj.cells #[.int .i64 r, .int .i64 c, .slice a' n' cap'] 52))
  have cvB := conv_bs ((hB.alloc (Obj.cells #[.int .i64 r, .int .i64 c, .slice a n cap] 52)).alloc (Obj.cells #[.int .i64 r, .int .i64 c, .slice a' n' cap'] 52))
  clear hA hB
  go_enter Try.func73, Try.ntmps73
  go_wp2
  go_ret
  exact ⟨rfl, ((Below.refl _ _).alloc (Nat.le_refl _) _).alloc (by simp) _⟩
end Go.Proofs.Ytfleplbdcpdphaa
