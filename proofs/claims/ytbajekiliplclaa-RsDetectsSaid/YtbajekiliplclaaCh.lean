/-
  choose: different numbers below total.
-/
import Derived.Test.YtbajekiliplclaaSel
import Derived.Deep.AppendLies
import Derived.Deep.DeepCutAuto
import Derived.IntWalk
namespace Go.Proofs.Ytbajekiliplclaa
open Go Go.RowKit
set_option linter.unusedVariables false

def nis (s : List Nat) : List Value := s.map fun (n : Nat) => .int .i64 n
theorem nis_snoc (s : List Nat) (n : Nat) : nis s ++ [.int .i64 (n : Int)] = nis (s ++ [n]) := by simp [nis]
theorem nis_append (s t : List Nat) : nis s ++ nis t = nis (s ++ t) := by simp [nis]
theorem nis_one (s : List Nat) : ∀ v ∈ nis s, v.oneCell' = true := by
  intro v hv
  unfold nis at hv
  obtain ⟨x, _, rfl⟩ := List.mem_map.1 hv
  rfl
theorem nis_ints (s : List Nat) : nis s = i64s (s.map fun (n : Nat) => (n : Int)) := by
  unfold nis i64s
  rw [List.map_map]
  rfl
/-- what choose returns: k different numbers below total -/
structure Chosen (k total : Nat) (s : List Nat) : Prop where
  len : s.length = k
  nod : s.Nodup
  lt : ∀ n ∈ s, n < total

/-- the two lists together are the numbers below total -/
structure ChI (w wr : World) (vl vo : Value) (total i : Nat) (L O : List Nat) : Prop where
  left : wr.ownsRow w.heap.size 3 1 vl L.length (nis L)
  out : wr.ownsRow w.heap.size 3 1 vo i (nis O)
  perm : (O ++ L).Perm (List.range total)
  len : O.length = i
  below : Below w.heap.size w wr
  sep : ∀ g, vo.ownBlock = some g → vl.ownBlock ≠ some g
theorem ChI.count {w wr : World} {vl vo : Value} {total i : Nat} {L O : List Nat} (h : ChI w wr vl vo total i L O) : i + L.length = total := by
  have h1 := h.perm.length_eq
  rw [List.length_append, List.length_range, h.len] at h1
  exact h1
theorem ChI.chosen {w wr : World} {vl vo : Value} {total i : Nat} {L O : List Nat} (h : ChI w wr vl vo total i L O) : Chosen i total O := by
  have h1 : (O ++ L).Nodup := h.perm.nodup_iff.2 List.nodup_range
  exact ⟨h.len, (List.nodup_append.1 h1).1, fun n hn => List.mem_range.1 (h.perm.mem_iff.1 (List.mem_append_left _ hn))⟩
theorem perm_step (O L : List Nat) (j : Nat) (hj : j < L.length) : ((O ++ [L.getD j 0]) ++ (L.take j ++ L.drop (j + 1))).Perm (O ++ L) := by
  rw [List.append_assoc]
  refine List.Perm.append_left O ?_
  rw [List.singleton_append]
  have e : L = L.take j ++ (L.getD j 0 :: L.drop (j + 1)) := by
    rw [List.getD_eq_getElem?_getD, List.getElem?_eq_getElem hj]
    show L = L.take j ++ (L[j] :: L.drop (j + 1))
    rw [← List.drop_eq_getElem_cons hj, List.take_append_drop]
  refine List.Perm.trans ?_ (List.Perm.of_eq e.symm)
  exact List.perm_middle.symm

theorem owns_nis_cell {w : World} {B g n cap : Nat} {L : List Nat} (h : w.ownsRow B 3 1 (.slice (some ⟨g, 0, none⟩) n cap) n (nis L)) (j : Nat) (hj : j < L.length) : w.cell? ⟨g, j, none⟩ = some (.int .i64 (L.getD j 0 : Nat)) := by
  have h1 := h.cells (g := g) rfl j (.int .i64 (L.getD j 0 : Nat)) (by simp [nis, List.getElem?_eq_getElem hj, List.getD_eq_getElem?_getD])
  rwa [add_none, Nat.zero_add] at h1
theorem owns_cap {w : World} {B g n cap : Nat} {t : TypeId} {xs : List Value} (h : w.ownsRow B t 1 (.slice (some ⟨g, 0, none⟩) n cap) n xs) : n ≤ cap := by
  rcases h.2 with ⟨h1, _⟩ | ⟨g', cap', cur, h1, _, _, h2, _⟩
  · cases h1
  · cases h1; exact h2
theorem tmod_lo (z : Int) (n : Nat) (h : 0 < n) : -(n : Int) < z.tmod n ∧ z.tmod n < n := by
  have h1 := Int.emod_nonneg z (b := n) (by omega)
  have h2 := Int.emod_lt_of_pos z (b := n) (by omega)
  have h3 := Int.tmod_eq_emod (a := z) (b := n)
  rw [h3]
  split
  · omega
  · rename_i hh
    have : (z % (n : Int)) ≠ 0 := fun e => hh (.inr (Int.dvd_of_emod_eq_zero e))
    omega
theorem take_news {w : World} {B g n cap j : Nat} {L : List Nat} (h : w.ownsRow B 3 1 (.slice (some ⟨g, 0, none⟩) n cap) n (nis L)) : ∀ i u, (nis (L.take j))[i]? = some u → w.cell? ((⟨g, 0, none⟩ : Addr).add i) = some u := fun i u hu => by
  refine h.cells (g := g) rfl i u ?_
  unfold nis at hu ⊢
  rw [List.map_take] at hu
  have hi : i < j := by have := (List.getElem?_eq_some_iff.1 hu).1; simp at this; omega
  rwa [List.getElem?_take_of_lt hi] at hu
theorem drop_news {w : World} {B g n cap j : Nat} {L : List Nat} (h : w.ownsRow B 3 1 (.slice (some ⟨g, 0, none⟩) n cap) n (nis L)) : ∀ i u, (nis (L.drop j))[i]? = some u → w.cell? ((⟨g, j, none⟩ : Addr).add i) = some u := fun i u hu => by
  have h5 := h.cells (g := g) rfl (j + i) u (by
    unfold nis at hu ⊢
    rwa [List.map_drop, List.getElem?_drop] at hu)
  rw [add_none] at h5 ⊢
  rwa [Nat.zero_add] at h5
theorem no_news {w : World} {a : Addr} {j : Nat} {L : List Nat} (h : L.length ≤ j) : ∀ i u, (nis (L.drop j))[i]? = some u → w.cell? (a.add i) = some u := fun i u hu => by
  rw [List.drop_eq_nil_of_le h] at hu
  cases hu
theorem ChI.next {w wr w2 w4 : World} {vl vo vo' v4 : Value} {total q j n4 : Nat} {L O : List Nat} (h : ChI w wr vl vo total q L O) (hj : j < L.length) (hown2 : w2.ownsRow w.heap.size 3 1 vo' (q + 1) (nis O ++ [.int .i64 (L.getD j 0 : Nat)])) (hb2 : Below w.heap.size w w2)
    (hown4 : w4.ownsRow w2.heap.size 3 1 v4 n4 (nis (L.take j) ++ nis (L.drop (j + 1)))) (hb4 : Below w2.heap.size w2 w4) : ChI w w4 v4 vo' total (q + 1) (L.take j ++ L.drop (j + 1)) (O ++ [L.getD j 0]) := by
  rw [nis_append] at hown4
  rw [nis_snoc] at hown2
  have hn : n4 = (L.take j ++ L.drop (j + 1)).length := by
    have := hown4.1
    simpa [nis] using this.symm
  rw [hn] at hown4
  refine ⟨⟨hown4.1, hown4.2.imp id fun ⟨g, cap, cur, h3, h4, r⟩ => ⟨g, cap, cur, h3, Nat.le_trans hb2.size h4, r⟩⟩, owns_below hown2 hb4, (perm_step O L j hj).trans h.perm, by simp [h.len], hb2.trans (hb4.mono hb2.size), fun g hg e => ?_⟩
  have h5 := (hown2.lt g hg).2
  have h6 := (hown4.lt g e).1
  omega

set_option maxRecDepth 100000 in
set_option maxHeartbeats 2000000 in
theorem choose_any (k total : Nat) (h1 : 1 ≤ k) (h2 : k ≤ total) (h3 : total ≤ 255) (la : Option Addr) (m lc : Nat) (l : List Int) (w : World) (hb : Is w (.slice la m lc) l) :
    Calls Try.prog 37 #[.int .i64 k, .int .i64 total, .slice la m lc] w fun e w' => ∃ vo s, e = .returned vo ∧ w'.ownsRow w.heap.size 3 1 vo k (nis s) ∧ Chosen k total s ∧ Below w.heap.size w w' := by
  obtain ⟨i0, hi, hz0, hz1, hz2⟩ := info_parts info3
  have hown : (w.alloc (.cells #[] 3)).ownsRow w.heap.size 3 1 (.slice (some ⟨w.heap.size, 0, none⟩) 0 0) 0 (nis (List.range 0)) := ⟨rfl, .inr ⟨w.heap.size, 0, #[], rfl, Nat.le_refl _, heap_new _ _, Nat.le_refl _, Nat.zero_le _, rfl, rfl⟩⟩
  have hbw : Below w.heap.size w (w.alloc (.cells #[] 3)) := (Below.refl _ _).alloc (Nat.le_refl _) _
  have HB := hid hb
  have HM := hid hb.len
  clear hb
  go_enter Try.func37, Try.ntmps37
  go_wp2
  go_loopw [7, 8] (fun v iv wr => ∃ i : Nat, i ≤ total ∧ iv = .int .i64 i ∧ wr.ownsRow w.heap.size 3 1 v i (nis (List.range i)) ∧ Below w.heap.size w wr) (fun _ iv _ => total - (intOf iv).toNat)
  case atStart => exact ⟨0, by omega, rfl, hown, hbw⟩
  case round =>
    clear hown hbw
    obtain ⟨i, hi', rfl, hown, hbw⟩ := hrel
    by_cases hlt : i < total
    · have hown1 := hown.alloc (.cells #[.int .i64 (i : Int)] 3)
      have hsz := hbw.size
      go_wp2_with (refine wpList_append_own _ rfl (.tmp 18) (.tmp 20) _ rfl w.heap.size 3 i0 (.int .i64 0) 1 8 Try.underlying37 hi hz0 hz1 hz2 rfl (by decide) _ i (nis (List.range i)) rfl hown1 ⟨wr.heap.size, 0, none⟩ 1 1 [.int .i64 (i : Int)] rfl rfl ?hnews ?hone (by unfold maxLen; omega) (by omega) (by simp; omega) ?_)
      case hnews => exact cell_of_new _ _ _
      case hone => intro u hu; simp only [List.mem_singleton] at hu; subst hu; rfl
      intro v' w2 hown2 hg2 _
      rw [nis_snoc, ← List.range_succ] at hown2
      have hb2 : Below w.heap.size w w2 := (hbw.alloc hsz _).grown hg2 (by simp; omega) (fun g hg => (hown1.lt g hg).1)
      clear hown hown1 hbw hg2
      go_wp2
      go_roundw
      case rel => exact ⟨i + 1, by omega, by go_num, hown2, hb2⟩
      case measure => simp [intOf]; omega
    · obtain rfl : i = total := by omega
      have hinv : ChI w (wr.alloc (.cells #[] 3)) u7 (.slice (some ⟨wr.heap.size, 0, none⟩) 0 0) i 0 (List.range i) [] := by
        refine ⟨by rw [List.length_range]; exact hown.alloc _, ⟨rfl, .inr ⟨wr.heap.size, 0, #[], rfl, hbw.size, heap_new _ _, Nat.le_refl _, Nat.zero_le _, rfl, rfl⟩⟩, List.Perm.refl _, rfl, hbw.alloc hbw.size _, fun g hg e => ?_⟩
        have h5 := (hown.lt g e).2
        simp [Value.ownBlock] at hg
        omega
      have HINV := hid hinv
      clear hinv hown hbw
      go_wp2
      go_loopw [7, 9, 10, 11] (fun vl vo iv _ wr => ∃ (q : Nat) (L O : List Nat), q ≤ k ∧ iv = .int .i64 q ∧ Hid (ChI w wr vl vo i q L O)) (fun _ _ iv _ _ => k - (intOf iv).toNat)
      case atStart => exact ⟨0, _, _, by omega, rfl, HINV⟩
      case round =>
        clear HINV
        obtain ⟨q, L, O, hq, rfl, HINV⟩ := hrel
        by_cases hlt2 : q < k
        · have hcnt := HINV.out.count
          have hL0 : 0 < L.length := by omega
          have hleft := HINV.out.left
          obtain ⟨n, hn⟩ : ∃ n, n = L.length := ⟨_, rfl⟩
          have HN := hid hn
          rw [← hn] at hleft hcnt hL0
          obtain ⟨g, cap, rfl, hg1, hg2⟩ := hleft.form hL0
          have hncap := owns_cap hleft
          have HLF := hid hleft
          clear hn hleft
          have e0 : ((n : Int) == 0) = false := by simp; omega
          go_upto_if 31 with fail
          go_cut [11] (fun jv wx => ∃ j : Nat, j < n ∧ jv = .int .i64 j ∧ Hid (wx = wr))
          case first =>
            by_cases hm : q < m
            · have HI := HB.out.below HINV.out.below
              obtain ⟨lb, lo, rfl, _, hcl⟩ := HI.addr (by omega)
              have ci := hcl q (by rw [← HM.out]; exact hm)
              clear hcl HI
              generalize l.getD q 0 = z at *
              have ht := tmod_lo z n hL0
              obtain ⟨t1, t2⟩ := ht
              by_cases hz : z.tmod n < 0
              · go_wp2_with fail
                go_meet
                exact ⟨(z.tmod n + n).toNat, by omega, by go_num, rfl⟩
              · go_wp2_with fail
                go_meet
                exact ⟨(z.tmod n).toNat, by omega, by go_num, rfl⟩
            · go_wp2_with fail
              go_meet
              exact ⟨0, hL0, rfl, rfl⟩
          case rest =>
            obtain ⟨j, hj, rfl, hw⟩ := hcut
            have e := hw.out
            subst e
            clear hw
            have cj := owns_nis_cell HLF.out j (by rw [← HN.out]; exact hj)
            have hown1 := HINV.out.out.alloc (.cells #[.int .i64 (L.getD j 0 : Nat)] 3)
            have hsz := HINV.out.below.size
            go_wp2_with (refine wpList_append_lies _ rfl (.tmp 45) (.tmp 50) _ rfl w.heap.size 3 i0 (.int .i64 0) 1 8 Try.underlying37 hi hz0 hz1 hz2 rfl (by decide) _ q (nis O) rfl hown1 ⟨wc.heap.size, 0, none⟩ 1 1 [.int .i64 (L.getD j 0 : Nat)] rfl rfl ?hnews ?hone (by omega) (by unfold maxLen; omega) (by omega) (by simp; omega) _ rfl ?_)
            case hnews => exact cell_of_new _ _ _
            case hone => intro u hu; simp only [List.mem_singleton] at hu; subst hu; rfl
            intro g2 cap2 w2 hown2 hg2 hat hlt3
            have hb2 : Below w.heap.size w w2 := (HINV.out.below.alloc hsz _).grown hg2 (by simp; omega) (fun g hg => (hown1.lt g hg).1)
            have hleft2 := (HLF.out.alloc (.cells #[.int .i64 (L.getD j 0 : Nat)] 3)).kept hg2 (.inr fun e => HINV.out.sep g e.symm rfl)
            have HL2 := hid hleft2
            have HO2 := hid hown2
            have HB2 := hid hb2
            clear hown1 hg2 hat hown2 hleft2 hb2 cj
            have hgl := (HL2.out.lt g rfl).2
            have hj1 : j ≤ cap := by omega
            have hj2 : j + 1 ≤ n := by omega
            by_cases hcap : cap = j + 1
            · subst hcap
              obtain rfl : n = j + 1 := by omega
              have hown0 : (w2.alloc (.cells #[] 3)).drew.ownsRow w2.heap.size 3 1 (.slice (some ⟨w2.heap.size, 0, none⟩) 0 0) 0 [] := ⟨rfl, .inr ⟨w2.heap.size, 0, #[], rfl, Nat.le_refl _, heap_new w2 _, Nat.le_refl _, Nat.zero_le _, rfl, rfl⟩⟩
              have HOWN0 := hid hown0
              have hl0 : (w2.alloc (.cells #[] 3)).drew.ownsRow w.heap.size 3 1 (.slice (some ⟨g, 0, none⟩) (j + 1) (j + 1)) (j + 1) (nis L) := (HL2.out.alloc (.cells #[] 3)).drew
              have HL0 := hid hl0
              have HT := hid (show (nis (L.take j)).length = j * 1 by simp [nis]; rw [← HN.out]; omega)
              have HD := hid (show (nis (L.drop (j + 1))).length = 0 * 1 by simp [nis]; rw [← HN.out]; omega)
              have hs0 : w2.heap.size ≤ (w2.alloc (.cells #[] 3)).drew.heap.size := by simp
              clear hown0 hl0
              have q1 : IntKind.i64.wrap ((j : Int) + 1) = (j : Int) + 1 := IntWalk.i64_in _ (by omega)
              have q2 : 0 ≤ (j : Int) + 1 := by omega
              have q5 : (j : Int) ≤ (j : Int) + 1 := by omega
              have q3 : (j : Int) + 1 ≤ ((j + 1) : Int) := by omega
              have q4 : ((j : Int) + 1).toNat = j + 1 := by omega
              go_wp2
              go_region_law (first
                | (refine step_append_own rfl (.tmp 52) (.tmp 55) _ rfl w2.heap.size 3 i0 (.int .i64 0) 1 8 Try.underlying37 hi hz0 hz1 hz2 rfl (by decide) (.slice (some ⟨w2.heap.size, 0, none⟩) 0 0) 0 [] rfl HOWN0.out ⟨g, 0, none⟩ j (j + 1) (nis (L.take j)) rfl HT.out (take_news HL0.out) (nis_one _) (by unfold maxLen; omega) (by omega) hs0 ?_; intro v3 w3 hown3 hg3)
                | (refine step_append_own rfl (.tmp 56) (.tmp 60) _ rfl w2.heap.size 3 i0 (.int .i64 0) 1 8 Try.underlying37 hi hz0 hz1 hz2 rfl (by decide) v3 (0 + j) ([] ++ nis (L.take j)) rfl hown3 ⟨g, 0, none⟩ 0 _ (nis (L.drop (j + 1))) rfl HD.out (no_news (by rw [← HN.out]; omega)) (nis_one _) (by unfold maxLen; omega) (by omega) (Nat.le_trans hs0 hg3.size) ?_; intro v4 w4 hown4 hg4))
              clear q1 q2 q3 q4 q5
              have hb3 : Below w2.heap.size w2 (w2.alloc (.cells #[] 3)).drew := ((Below.refl _ _).alloc (Nat.le_refl _) _).drew
              have hb4 : Below w2.heap.size w2 w4 := (hb3.grown hg3 hs0 (fun g hg => by simp [Value.ownBlock] at hg; omega)).grown hg4 (Nat.le_trans hs0 hg3.size) (fun g hg => (hown3.lt g hg).1)
              rw [List.nil_append] at hown4
              have HNX := hid (HINV.out.next (by rw [← HN.out]; exact hj) HO2.out HB2.out hown4 hb4)
              clear hown3 hown4 hg3 hg4 hb3 hb4
              go_wp2
              exact ⟨⟨q + 1, _, _, by omega, by go_num, HNX⟩, by simp [intOf]; omega⟩
            · have hown0 : (w2.alloc (.cells #[] 3)).drew.ownsRow w2.heap.size 3 1 (.slice (some ⟨w2.heap.size, 0, none⟩) 0 0) 0 [] := ⟨rfl, .inr ⟨w2.heap.size, 0, #[], rfl, Nat.le_refl _, heap_new w2 _, Nat.le_refl _, Nat.zero_le _, rfl, rfl⟩⟩
              have HOWN0 := hid hown0
              have hl0 : (w2.alloc (.cells #[] 3)).drew.ownsRow w.heap.size 3 1 (.slice (some ⟨g, 0, none⟩) n cap) n (nis L) := (HL2.out.alloc (.cells #[] 3)).drew
              have HL0 := hid hl0
              have HT := hid (show (nis (L.take j)).length = j * 1 by simp [nis]; rw [← HN.out]; omega)
              have HD := hid (show (nis (L.drop (j + 1))).length = (n - (j + 1)) * 1 by simp [nis]; rw [← HN.out])
              have hs0 : w2.heap.size ≤ (w2.alloc (.cells #[] 3)).drew.heap.size := by simp
              clear hown0 hl0
              have q1 : IntKind.i64.wrap ((j : Int) + 1) = (j : Int) + 1 := IntWalk.i64_in _ (by omega)
              have q2 : 0 ≤ (j : Int) + 1 := by omega
              have q3 : (j : Int) + 1 ≤ (n : Int) := by omega
              have q4 : ((j : Int) + 1).toNat = j + 1 := by omega
              go_wp2
              go_region_law (first
                | (refine step_append_own rfl (.tmp 52) (.tmp 55) _ rfl w2.heap.size 3 i0 (.int .i64 0) 1 8 Try.underlying37 hi hz0 hz1 hz2 rfl (by decide) (.slice (some ⟨w2.heap.size, 0, none⟩) 0 0) 0 [] rfl HOWN0.out ⟨g, 0, none⟩ j cap (nis (L.take j)) rfl HT.out (take_news HL0.out) (nis_one _) (by unfold maxLen; omega) (by omega) hs0 ?_; intro v3 w3 hown3 hg3)
                | (refine step_append_own rfl (.tmp 56) (.tmp 60) _ rfl w2.heap.size 3 i0 (.int .i64 0) 1 8 Try.underlying37 hi hz0 hz1 hz2 rfl (by decide) v3 (0 + j) ([] ++ nis (L.take j)) rfl hown3 ⟨g, j + 1, none⟩ (n - (j + 1)) (cap - (j + 1)) (nis (L.drop (j + 1))) rfl HD.out (drop_news (HL0.out.kept hg3 (.inr fun e => by simp [Value.ownBlock] at e; omega))) (nis_one _) (by unfold maxLen; omega) (by omega) (Nat.le_trans hs0 hg3.size) ?_; intro v4 w4 hown4 hg4))
              clear q1 q2 q3 q4
              have hb3 : Below w2.heap.size w2 (w2.alloc (.cells #[] 3)).drew := ((Below.refl _ _).alloc (Nat.le_refl _) _).drew
              have hb4 : Below w2.heap.size w2 w4 := (hb3.grown hg3 hs0 (fun g hg => by simp [Value.ownBlock] at hg; omega)).grown hg4 (Nat.le_trans hs0 hg3.size) (fun g hg => (hown3.lt g hg).1)
              rw [List.nil_append] at hown4
              have HNX := hid (HINV.out.next (by rw [← HN.out]; exact hj) HO2.out HB2.out hown4 hb4)
              clear hown3 hown4 hg3 hg4 hb3 hb4
              go_wp2
              exact ⟨⟨q + 1, _, _, by omega, by go_num, HNX⟩, by simp [intOf]; omega⟩
        · obtain rfl : q = k := by omega
          have hown := HINV.out.out
          have hch := HINV.out.chosen
          have hbe := HINV.out.below
          go_wp2
          go_ret
          exact ⟨_, _, rfl, hown, hch, hbe⟩
end Go.Proofs.Ytbajekiliplclaa
