/-
  The reference's check of a list of pieces.
-/
import Derived.Test.YtbajekiliplclaaChk
namespace Go.Proofs.Ytbajekiliplclaa
open Go Go.RowKit
set_option linter.unusedVariables false

/-- what the outer loop keeps -/
structure RckI (t : Int) (idx ce : Nat → Int) (w wr : World) (i : Nat) : Prop where
  below : Below w.heap.size w wr
  clean : chkTo t idx ce i = 0
/-- what the inner loop keeps -/
structure RckJ (idx : Nat → Int) (w wr : World) (pb i j : Nat) (x y : Value) : Prop where
  below : Below w.heap.size w wr
  box : wr.heap[pb]? = some (.cells #[x, y] 36 (0, 0))
  ne : ∀ j', j' < j → idx j' ≠ idx i
theorem occ_no {idx : Nat → Int} {i : Nat} (h : ∀ j', j' < i → idx j' ≠ idx i) : occ idx i (idx i) ≠ true := fun e => by
  obtain ⟨j, h1, h2⟩ := (occ_iff _ _ _).1 e
  exact h j h1 h2
theorem stepE_clean {t : Int} {idx ce : Nat → Int} {i : Nat} (h1 : ¬ (idx i < 0 ∨ t ≤ idx i)) (h2 : ∀ j', j' < i → idx j' ≠ idx i) : stepE t idx ce i = ce i := by
  unfold stepE
  rw [if_neg h1, if_neg (occ_no h2)]

set_option maxRecDepth 100000 in
set_option maxHeartbeats 2000000 in
theorem refcheck_len (k t : Int) (L : Nat) (a : Option Addr) (n c : Nat) (ps : List (Int × Sl)) (w : World) (hp : Ps w (.slice a n c) ps) (hn : n ≤ 100000) :
    Calls Try.prog 84 #[.int .i64 k, .int .i64 t, .int .i64 L, .slice a n c] w fun e w' => e = .returned (.int .i64 (chkAll k t (pidx ps) (fun i => if ((plen' ps i : Nat) : Int) = (L : Nat) then 0 else 10) n)) ∧ Below w.heap.size w w' := by
  have hnp : n = ps.length := by obtain ⟨_, _, h, _⟩ := hp; simp at h; exact h.2.1
  have HN := hid hnp
  have HP := hid hp
  clear hnp hp
  obtain ⟨ce, hce⟩ : ∃ ce : Nat → Int, ce = fun i => if ((plen' ps i : Nat) : Int) = (L : Nat) then 0 else 10 := ⟨_, rfl⟩
  have HCE := hid hce
  rw [← hce]
  clear hce
  have HINV := hid (show RckI t (pidx ps) ce w w 0 from ⟨Below.refl _ _, rfl⟩)
  have bl1 : decide ((L : Int) < 0) = false := by simp
  have bl2 : decide ((0 : Int) ≤ (L : Int)) = true := by simp
  go_enter Try.func84, Try.ntmps84
  go_wp2
  go_loopw [9] (fun iv wr => ∃ i : Nat, i ≤ n ∧ iv = .int .i64 i ∧ Hid (RckI t (pidx ps) ce w wr i)) (fun iv _ => n - (intOf iv).toNat)
  case atStart => exact ⟨0, by omega, rfl, HINV⟩
  case round =>
    clear HINV
    obtain ⟨i, hi, rfl, HINV⟩ := hrel
    by_cases hlt : i < n
    · have HPr := HP.out.below HINV.out.below
      obtain ⟨b, o, rfl⟩ : ∃ b o, a = some ⟨b, o, none⟩ := by
        obtain ⟨a', c', h1, h3⟩ := HPr
        obtain ⟨b, o, ha, _⟩ := h3 (by intro e; rw [e] at HN; have := HN.out; simp at this; omega)
        simp at h1
        exact ⟨b, o, h1.1.trans ha⟩
      have hcs := HPr.cells i (by rw [← HN.out]; exact hlt)
      obtain ⟨q0, q1⟩ := hcs
      rw [pidx_at] at q0
      rw [plen_at] at q1
      have hbe := HINV.out.below
      clear HPr
      generalize hda : (ps[i]'_).2.1 = da at *
      generalize hdc : (ps[i]'_).2.2.2 = dc at *
      clear hda hdc
      by_cases hbad : pidx ps i < 0 ∨ t ≤ pidx ps i
      · have hst : chkAll k t (pidx ps) ce n = 2 := by
          have h2 : stepE t (pidx ps) ce i = 2 := by unfold stepE; rw [if_pos hbad]
          rw [chkAll_stop HINV.out.clean (by rw [h2]; decide) hlt, h2]
        have HST := hid hst
        clear hst
        generalize pidx ps i = v at *
        by_cases h0 : v < 0
        · clear hbad
          go_wp2
          go_ret
          exact ⟨ret_int HST.out.symm, hbe.alloc hbe.size _⟩
        · have h1 : t ≤ v := by omega
          clear hbad
          go_wp2
          go_ret
          exact ⟨ret_int HST.out.symm, hbe.alloc hbe.size _⟩
      · have g1 : ¬ pidx ps i < 0 := fun h => hbad (.inl h)
        have g2 : ¬ t ≤ pidx ps i := fun h => hbad (.inr h)
        have HBAD := hid hbad
        clear hbad
        obtain ⟨v, hv⟩ : ∃ v, v = pidx ps i := ⟨_, rfl⟩
        have HV := hid hv
        rw [← hv] at q0 g1 g2
        clear hv
        obtain ⟨wo, rfl⟩ : ∃ wo : World, wo = wr := ⟨_, rfl⟩
        have HJ := hid (show RckJ (pidx ps) w (wo.alloc (Obj.cells #[.int .i64 v, .slice da (plen' ps i) dc] 36)) wo.heap.size i 0 (.int .i64 v) (.slice da (plen' ps i) dc) from ⟨hbe.alloc hbe.size _, heap_new _ _, fun j' h => absurd h (Nat.not_lt_zero _)⟩)
        go_wp2
        go_loopw [11] (fun jv wx => ∃ j : Nat, j ≤ i ∧ jv = .int .i64 j ∧ Hid (RckJ (pidx ps) w wx wo.heap.size i j (.int .i64 v) (.slice da (plen' ps i) dc))) (fun jv _ => i - (intOf jv).toNat)
        case atStart => exact ⟨0, by omega, rfl, HJ⟩
        case round =>
          clear HJ
          obtain ⟨j, hj, rfl, HJ⟩ := hrel
          have c0 := cell_of_heap HJ.out.box 0
          have c1 := cell_of_heap HJ.out.box 1
          by_cases hlt2 : j < i
          · have p0 := ((HP.out.below HJ.out.below).cells j (by rw [← HN.out]; omega)).1
            rw [pidx_at] at p0
            by_cases he : pidx ps j = v
            · have hst : chkAll k t (pidx ps) ce n = 7 := by
                have h2 : stepE t (pidx ps) ce i = 7 := by unfold stepE; rw [if_neg HBAD.out, if_pos ((occ_iff _ _ _).2 ⟨j, hlt2, he.trans HV.out⟩)]
                rw [chkAll_stop HINV.out.clean (by rw [h2]; decide) hlt, h2]
              have HST := hid hst
              have b1 : (pidx ps j == v) = true := by simpa using he
              clear hst he
              have hbj := HJ.out.below
              go_wp2
              go_quiet (fail)
              go_wp2
              go_ret
              exact ⟨ret_int HST.out.symm, bel_drewN hbj _⟩
            · have b1 : (pidx ps j == v) = false := by simpa using he
              have HE := hid he
              clear he
              go_wp2
              go_quiet (fail)
              have HJ2 := hid (show RckJ (pidx ps) w (wr.drewN nq) wo.heap.size i (j + 1) (.int .i64 v) (.slice da (plen' ps i) dc) from ⟨bel_drewN HJ.out.below _, HJ.out.box, fun j' h => by
                by_cases e : j' = j
                · rw [e, ← HV.out]; exact HE.out
                · exact HJ.out.ne j' (by omega)⟩)
              go_wp2
              exact ⟨⟨j + 1, by omega, by go_num, HJ2⟩, by simp [intOf]; omega⟩
          · obtain rfl : j = i := by omega
            have hce := stepE_clean (ce := ce) HBAD.out HJ.out.ne
            have hbj := HJ.out.below
            by_cases hln : plen' ps j = L
            · have b1 : ((plen' ps j : Int) != (L : Int)) = false := by simp [hln]
              have NX := fun q => show RckI t (pidx ps) ce w (wr.drewN q) (j + 1) from ⟨bel_drewN hbj _, chkTo_next HINV.out.clean (by rw [hce, HCE.out]; exact if_pos (by rw [hln]))⟩
              have NXH := hid NX
              clear NX hce hln
              go_wp2
              go_quiet (fail)
              go_wp2
              exact ⟨⟨j + 1, by omega, by go_num, hid (NXH.out _)⟩, by simp [intOf]; omega⟩
            · have b1 : ((plen' ps j : Int) != (L : Int)) = true := by simp; omega
              have hst : chkAll k t (pidx ps) ce n = 10 := by
                have h2 : stepE t (pidx ps) ce j = 10 := by rw [hce, HCE.out]; exact if_neg (by omega)
                rw [chkAll_stop HINV.out.clean (by rw [h2]; decide) hlt, h2]
              have HST := hid hst
              clear hst hce hln
              go_wp2
              go_quiet (fail)
              go_wp2
              go_ret
              exact ⟨ret_int HST.out.symm, bel_drewN hbj _⟩
    · obtain rfl : i = n := by omega
      have hbe := HINV.out.below
      by_cases hk : (i : Int) < k
      · have hst : chkAll k t (pidx ps) ce i = 12 := by unfold chkAll; rw [if_pos HINV.out.clean, if_pos hk]
        have HST := hid hst
        clear hst
        go_wp2
        go_ret
        exact ⟨ret_int HST.out.symm, hbe⟩
      · have hst : chkAll k t (pidx ps) ce i = 0 := by unfold chkAll; rw [if_pos HINV.out.clean, if_neg hk]
        have HST := hid hst
        clear hst
        go_wp2
        go_ret
        exact ⟨ret_int HST.out.symm, hbe⟩
set_option maxRecDepth 100000 in
set_option maxHeartbeats 2000000 in
theorem refcheck_alike (k t : Int) (a : Option Addr) (n c : Nat) (ps : List (Int × Sl)) (w : World) (hp : Ps w (.slice a n c) ps) (hn : n ≤ 100000) :
    Calls Try.prog 84 #[.int .i64 k, .int .i64 t,   .int .i64 (-1), .slice a n c] w fun e w' => e = .returned (.int .i64 (chkAll k t (pidx ps) (alikeE ps) n)) ∧ Below w.heap.size w w' := by
  have hnp : n = ps.length := by obtain ⟨_, _, h, _⟩ := hp; simp at h; exact h.2.1
  have HN := hid hnp
  have HP := hid hp
  clear hnp hp
  obtain ⟨ce, hce⟩ : ∃ ce : Nat → Int, ce = alikeE ps := ⟨_, rfl⟩
  have HCE := hid hce
  rw [← hce]
  clear hce
  have HINV := hid (show RckI t (pidx ps) ce w w 0 from ⟨Below.refl _ _, rfl⟩)
  go_enter Try.func84, Try.ntmps84
  go_wp2
  go_loopw [9] (fun iv wr => ∃ i : Nat, i ≤ n ∧ iv = .int .i64 i ∧ Hid (RckI t (pidx ps) ce w wr i)) (fun iv _ => n - (intOf iv).toNat)
  case atStart => exact ⟨0, by omega, rfl, HINV⟩
  case round =>
    clear HINV
    obtain ⟨i, hi, rfl, HINV⟩ := hrel
    by_cases hlt : i < n
    · have HPr := HP.out.below HINV.out.below
      obtain ⟨b, o, rfl⟩ : ∃ b o, a = some ⟨b, o, none⟩ := by
        obtain ⟨a', c', h1, h3⟩ := HPr
        obtain ⟨b, o, ha, _⟩ := h3 (by intro e; rw [e] at HN; have := HN.out; simp at this; omega)
        simp at h1
        exact ⟨b, o, h1.1.trans ha⟩
      have hcs := HPr.cells i (by rw [← HN.out]; exact hlt)
      obtain ⟨q0, q1⟩ := hcs
      rw [pidx_at] at q0
      rw [plen_at] at q1
      have hbe := HINV.out.below
      clear HPr
      generalize hda : (ps[i]'_).2.1 = da at *
      generalize hdc : (ps[i]'_).2.2.2 = dc at *
      clear hda hdc
      by_cases hbad : pidx ps i < 0 ∨ t ≤ pidx ps i
      · have hst : chkAll k t (pidx ps) ce n = 2 := by
          have h2 : stepE t (pidx ps) ce i = 2 := by unfold stepE; rw [if_pos hbad]
          rw [chkAll_stop HINV.out.clean (by rw [h2]; decide) hlt, h2]
        have HST := hid hst
        clear hst
        generalize pidx ps i = v at *
        by_cases h0 : v < 0
        · clear hbad
          go_wp2
          go_ret
          exact ⟨ret_int HST.out.symm, hbe.alloc hbe.size _⟩
        · have h1 : t ≤ v := by omega
          clear hbad
          go_wp2
          go_ret
          exact ⟨ret_int HST.out.symm, hbe.alloc hbe.size _⟩
      · have g1 : ¬ pidx ps i < 0 := fun h => hbad (.inl h)
        have g2 : ¬ t ≤ pidx ps i := fun h => hbad (.inr h)
        have HBAD := hid hbad
        clear hbad
        obtain ⟨v, hv⟩ : ∃ v, v = pidx ps i := ⟨_, rfl⟩
        have HV := hid hv
        rw [← hv] at q0 g1 g2
        clear hv
        obtain ⟨wo, rfl⟩ : ∃ wo : World, wo = wr := ⟨_, rfl⟩
        have HJ := hid (show RckJ (pidx ps) w (wo.alloc (Obj.cells #[.int .i64 v, .slice da (plen' ps i) dc] 36)) wo.heap.size i 0 (.int .i64 v) (.slice da (plen' ps i) dc) from ⟨hbe.alloc hbe.size _, heap_new _ _, fun j' h => absurd h (Nat.not_lt_zero _)⟩)
        go_wp2
        go_loopw [11] (fun jv wx => ∃ j : Nat, j ≤ i ∧ jv = .int .i64 j ∧ Hid (RckJ (pidx ps) w wx wo.heap.size i j (.int .i64 v) (.slice da (plen' ps i) dc))) (fun jv _ => i - (intOf jv).toNat)
        case atStart => exact ⟨0, by omega, rfl, HJ⟩
        case round =>
          clear HJ
          obtain ⟨j, hj, rfl, HJ⟩ := hrel
          have c0 := cell_of_heap HJ.out.box 0
          have c1 := cell_of_heap HJ.out.box 1
          by_cases hlt2 : j < i
          · have p0 := ((HP.out.below HJ.out.below).cells j (by rw [← HN.out]; omega)).1
            rw [pidx_at] at p0
            by_cases he : pidx ps j = v
            · have hst : chkAll k t (pidx ps) ce n = 7 := by
                have h2 : stepE t (pidx ps) ce i = 7 := by unfold stepE; rw [if_neg HBAD.out, if_pos ((occ_iff _ _ _).2 ⟨j, hlt2, he.trans HV.out⟩)]
                rw [chkAll_stop HINV.out.clean (by rw [h2]; decide) hlt, h2]
              have HST := hid hst
              have b1 : (pidx ps j == v) = true := by simpa using he
              clear hst he
              have hbj := HJ.out.below
              go_wp2
              go_quiet (fail)
              go_wp2
              go_ret
              exact ⟨ret_int HST.out.symm, bel_drewN hbj _⟩
            · have b1 : (pidx ps j == v) = false := by simpa using he
              have HE := hid he
              clear he
              go_wp2
              go_quiet (fail)
              have HJ2 := hid (show RckJ (pidx ps) w (wr.drewN nq) wo.heap.size i (j + 1) (.int .i64 v) (.slice da (plen' ps i) dc) from ⟨bel_drewN HJ.out.below _, HJ.out.box, fun j' h => by
                by_cases e : j' = j
                · rw [e, ← HV.out]; exact HE.out
                · exact HJ.out.ne j' (by omega)⟩)
              go_wp2
              exact ⟨⟨j + 1, by omega, by go_num, HJ2⟩, by simp [intOf]; omega⟩
          · obtain rfl : j = i := by omega
            have hce := stepE_clean (ce := ce) HBAD.out HJ.out.ne
            have hbj := HJ.out.below
            have hz := ((HP.out.below hbj).cells 0 (by rw [← HN.out]; omega)).2
            rw [plen_at, Nat.zero_mul, Nat.add_zero] at hz
            have hce : stepE t (pidx ps) ce j = alikeL (plen' ps 0) (plen' ps j) := by rw [hce, HCE.out]; rfl
            obtain ⟨L0, hL0⟩ : ∃ L0, L0 = plen' ps 0 := ⟨_, rfl⟩
            rw [← hL0] at hz hce
            clear hL0
            generalize (ps[0]'_).2.1 = d0 at *
            generalize (ps[0]'_).2.2.2 = e0 at *
            obtain ⟨m, hm⟩ : ∃ m, m = plen' ps j := ⟨_, rfl⟩
            rw [← hm] at hce q1 c1 ⊢
            have HBX := hid HJ.out.box
            clear hm
            by_cases hbig : 8192 < m
            · have b1 : decide ((8192 : Int) < (m : Int)) = true := by simp; omega
              have hst : chkAll k t (pidx ps) ce n = 3 := by
                have h2 : stepE t (pidx ps) ce j = 3 := by rw [hce]; unfold alikeL; rw [if_pos hbig]
                rw [chkAll_stop HINV.out.clean (by rw [h2]; decide) hlt, h2]
              have HST := hid hst
              clear hst hce
              go_wp2
              go_ret
              exact ⟨ret_int HST.out.symm, hbj⟩
            · have b1 : decide ((8192 : Int) < (m : Int)) = false := by simp; omega
              by_cases hln : m = L0
              · have b2 : ((m : Int) != (L0 : Int)) = false := by simp [hln]
                have NX := fun q => show RckI t (pidx ps) ce w (wr.drewN q) (j + 1) from ⟨bel_drewN hbj _, chkTo_next HINV.out.clean (by rw [hce]; unfold alikeL; rw [if_neg hbig, if_pos hln])⟩
                have NXH := hid NX
                clear NX hce hln
                go_wp2
                go_quiet (fail)
                go_wp2
                exact ⟨⟨j + 1, by omega, by go_num, hid (NXH.out _)⟩, by simp [intOf]; omega⟩
              · have b2 : ((m : Int) != (L0 : Int)) = true := by simp; omega
                have hst : chkAll k t (pidx ps) ce n = 10 := by
                  have h2 : stepE t (pidx ps) ce j = 10 := by rw [hce]; unfold alikeL; rw [if_neg hbig, if_neg hln]
                  rw [chkAll_stop HINV.out.clean (by rw [h2]; decide) hlt, h2]
                have HST := hid hst
                clear hst hce hln
                go_wp2
                go_quiet (fail)
                go_wp2
                go_ret
                exact ⟨ret_int HST.out.symm, bel_drewN hbj _⟩
    · obtain rfl : i = n := by omega
      have hbe := HINV.out.below
      by_cases hk : (i : Int) < k
      · have hst : chkAll k t (pidx ps) ce i = 12 := by unfold chkAll; rw [if_pos HINV.out.clean, if_pos hk]
        have HST := hid hst
        clear hst
        go_wp2
        go_ret
        exact ⟨ret_int HST.out.symm, hbe⟩
      · have hst : chkAll k t (pidx ps) ce i = 0 := by unfold chkAll; rw [if_pos HINV.out.clean, if_neg hk]
        have HST := hid hst
        clear hst
        go_wp2
        go_ret
        exact ⟨ret_int HST.out.symm, hbe⟩
end Go.Proofs.Ytbajekiliplclaa
