/-
  The errors of Consistent; the reference's Agree.
-/
import Derived.Test.YtbajekiliplclaaCons
import Derived.Deep.RegionWith
namespace Go.Proofs.Ytbajekiliplclaa
open Go Go.RowKit
set_option linter.unusedVariables false

theorem Consistent_size (fb : Nat) (k t : Int) (a : Option Addr) (n c : Nat) (h : ¬ (1 ≤ k ∧ k ≤ t ∧ t ≤ 255)) (w : World) :
    Calls Try.prog 40 #[.pointer (some ⟨fb, 0, none⟩), .int .i64 k, .int .i64 t, .slice a n c] w fun e w' => e = .returned (.tuple #[.bool false, .int .i64 2]) ∧ w = w' := by
  have hnot : ∀ (x : Bool) (w : World), (Op.unary .not (.bool x)).run Try.prog w = .ok (.bool (!x)) w := fun _ _ => rfl
  have H := hid h
  clear h
  go_enter Try.func40, Try.ntmps40
  go_wp2_with fail
  refine (valid_no k t H.out _).mono ?_
  rintro e w' ⟨rfl, rfl⟩
  go_wp2
  go_ret2
  exact ⟨rfl, rfl⟩
theorem Agree_size (k t : Int) (a : Option Addr) (n c : Nat) (h : ¬ (1 ≤ k ∧ k ≤ t ∧ t ≤ 255)) (w : World) :
    Calls Try.prog 41 #[.int .i64 k, .int .i64 t, .slice a n c] w fun e w' => e = .returned (.tuple #[.bool false, .int .i64 2]) ∧ w = w' := by
  have hnot : ∀ (x : Bool) (w : World), (Op.unary .not (.bool x)).run Try.prog w = .ok (.bool (!x)) w := fun _ _ => rfl
  have H := hid h
  clear h
  go_enter Try.func41, Try.ntmps41
  go_wp2_with fail
  refine (rsizes_no k t H.out _).mono ?_
  rintro e w' ⟨rfl, rfl⟩
  go_wp2
  go_ret2
  exact ⟨rfl, rfl⟩
theorem Consistent_err (fb k t : Nat) (a : Option Addr) (n c : Nat) (ps : List (Int × Sl)) (h1 : 1 ≤ k) (h2 : k ≤ t) (h3 : t ≤ 255) (hn : n ≤ 100000) (w : World) (hp : Ps w (.slice a n c) ps) (x : Int)
    (hx : chkAll k t (pidx ps) (alikeE ps) n = x) (hne : x ≠ 0) :
    Calls Try.prog 40 #[.pointer (some ⟨fb, 0, none⟩), .int .i64 k, .int .i64 t, .slice a n c] w fun e w' => e = .returned (.tuple #[.bool false, .int .i64 x]) ∧ Below w.heap.size w w' := by
  have hnot : ∀ (x : Bool) (w : World), (Op.unary .not (.bool x)).run Try.prog w = .ok (.bool (!x)) w := fun _ _ => rfl
  have bn : (x != 0) = true := by simpa using hne
  have hc := checkAlike_any (k : Int) (t : Int) a n c ps w (by omega) hp hn
  rw [hx] at hc
  have HC := hid hc
  clear hp hne hc hx
  go_enter Try.func40, Try.ntmps40
  go_wp2_with fail
  refine (valid_yes k t (by omega) (by omega) (by omega) _).mono ?_
  rintro e w' ⟨rfl, rfl⟩
  go_wp2_with fail
  refine HC.out.mono ?_
  rintro e w5 ⟨rfl, hb⟩
  go_wp2
  go_ret2
  exact ⟨rfl, hb⟩
theorem Agree_err (k t : Nat) (a : Option Addr) (n c : Nat) (ps : List (Int × Sl)) (h1 : 1 ≤ k) (h2 : k ≤ t) (h3 : t ≤ 255) (hn : n ≤ 100000) (w : World) (hp : Ps w (.slice a n c) ps) (x : Int)
    (hx : chkAll k t (pidx ps) (alikeE ps) n = x) (hne : x ≠ 0) :
    Calls Try.prog 41 #[.int .i64 k, .int .i64 t, .slice a n c] w fun e w' => e = .returned (.tuple #[.bool false, .int .i64 x]) ∧ Below w.heap.size w w' := by
  have hnot : ∀ (x : Bool) (w : World), (Op.unary .not (.bool x)).run Try.prog w = .ok (.bool (!x)) w := fun _ _ => rfl
  have bn : (x != 0) = true := by simpa using hne
  have hc := refcheck_alike (k : Int) (t : Int) a n c ps w hp hn
  rw [hx] at hc
  have HC := hid hc
  clear hp hne hc hx
  go_enter Try.func41, Try.ntmps41
  go_wp2_with fail
  refine (rsizes_yes k t (by omega) (by omega) (by omega) _).mono ?_
  rintro e w' ⟨rfl, rfl⟩
  go_wp2_with fail
  refine HC.out.mono ?_
  rintro e w5 ⟨rfl, hb⟩
  go_wp2
  go_ret2
  exact ⟨rfl, hb⟩

set_option maxRecDepth 100000 in
set_option maxHeartbeats 4000000 in
theorem Agree_ok (k t : Nat) (a : Option Addr) (n c : Nat) (ps : List (Int × Sl)) (D : Nat → List Nat) (h1 : 1 ≤ k) (h2 : k ≤ t) (h3 : t ≤ 255) (hn : n ≤ 100000) (hnc : n ≤ c) (w : World) (hp : Ps w (.slice a n c) ps)
    (hD : ∀ i, (h : i < ps.length) → Bs w (.slice ps[i].2.1 ps[i].2.2.1 ps[i].2.2.2) (D i)) (hz : chkAll k t (pidx ps) (alikeE ps) n = 0) :
    Calls Try.prog 41 #[.int .i64 k, .int .i64 t, .slice a n c] w fun e w' => BoolRes (∀ i, k ≤ i → i < n → mixA D ps k (plen' ps 0) i = D i) e ∧ Below w.heap.size w w' := by
  have hnot : ∀ (x : Bool) (w : World), (Op.unary .not (.bool x)).run Try.prog w = .ok (.bool (!x)) w := fun _ _ => rfl
  have hfit := fit_of hz
  have hkn : k ≤ n := by have := hfit.few; omega
  have hnp : n = ps.length := by obtain ⟨_, _, h, _⟩ := hp; simp at h; exact h.2.1
  obtain ⟨b, o, rfl⟩ : ∃ b o, a = some ⟨b, o, none⟩ := by
    obtain ⟨a', c', e1, e3⟩ := hp
    obtain ⟨b, o, ha, _⟩ := e3 (by intro e; rw [e] at hnp; simp at hnp; omega)
    simp at e1
    exact ⟨b, o, e1.1.trans ha⟩
  have HP := hid hp
  have HD := hid hD
  have hc := refcheck_alike (k : Int) (t : Int) (some ⟨b, o, none⟩) n c ps w hp hn
  rw [hz] at hc
  have HC := hid hc
  have hal := alike_fit hfit
  have hLb := (hal 0 (by omega)).2
  have HN := hid hnp
  have HFIT := hid hfit
  have HLENS := hid (fun i h => (hal i h).1)
  have HV := hid (fun w0 (h0 : Below w.heap.size w w0) x (hx : x < 256) => value_any k n b o c (plen' ps 0) x ps D w0 h1 (by omega) hkn hnc hx (by omega) (HP.out.below h0) (fun i h => (hD i h).below h0) (fun i h => (hal i (by omega)).1) (fun i h => ⟨hfit.lo i (by omega), by have := hfit.hi i (by omega); omega⟩) (places_nodup hfit))
  have HOWN := hid (fun i (hi : i < k) => mixA_own (D := D) (L := plen' ps 0) hfit (show (t : Int) ≤ 255 by omega) (fun j hj => by
    have hj2 : j < ps.length := by omega
    have h5 := (hD j hj2).len
    rw [plen_at, (hal j (by omega)).1] at h5
    exact ⟨h5.symm, (hD j hj2).lt⟩) hi)
  have HDLT := hid (fun i (hi : i < ps.length) => show ∀ x ∈ D i, x < 256 from by obtain ⟨_, _, _, h, _⟩ := hD i hi; exact h)
  clear hp hD hc hal hfit hnp hz
  generalize plen' ps 0 = L at *
  go_enter Try.func41, Try.ntmps41
  go_wp2_with fail
  refine (rsizes_yes k t (by omega) (by omega) (by omega) _).mono ?_
  rintro e w' ⟨rfl, rfl⟩
  go_wp2_with fail
  refine HC.out.mono ?_
  rintro e w5 ⟨rfl, hb⟩
  go_wp2
  go_loopw [9] (fun iv wr => ∃ i : Nat, i ≤ n ∧ iv = .int .i64 i ∧ Hid (Below w.heap.size w wr) ∧ Hid (∀ q, q < i → mixA D ps k L q = D q)) (fun iv _ => n - (intOf iv).toNat)
  case atStart => exact ⟨0, by omega, rfl, hid hb, hid fun q h => absurd h (Nat.not_lt_zero _)⟩
  case round =>
    clear hb
    obtain ⟨i, hi, rfl, HBW, HG⟩ := hrel
    by_cases hlt : i < n
    · have hki : i < ps.length := by rw [← HN.out]; omega
      obtain ⟨q0, q1⟩ := HP.out.cells i hki
      rw [pidx_at] at q0
      rw [plen_at, HLENS.out i (by omega)] at q1
      obtain ⟨v, hv⟩ : ∃ v : Nat, pidx ps i = v := ⟨(pidx ps i).toNat, by have := HFIT.out.lo i (by omega); omega⟩
      have hv2 : v < 256 := by have := HFIT.out.hi i (by omega); omega
      have HV2 := hid hv
      have hdd := HD.out i hki
      rw [plen_at, HLENS.out i (by omega)] at hdd
      rw [hv] at q0
      clear hv
      generalize (ps[i]'_).2.1 = da at *
      generalize (ps[i]'_).2.2.2 = dc at *
      have HDD := hid hdd
      have Q0 := hid q0
      have Q1 := hid q1
      have hbl := World.block_lt_of_cell? _ _ q0
      have hkeep : ∀ wx, Below w.heap.size w wx → wx.cell? ⟨b, o + i * 2, none⟩ = some (.int .i64 v) ∧ wx.cell? ⟨b, o + i * 2 + 1, none⟩ = some (.slice da L dc) := fun wx hb => ⟨(hb.cell (p := ⟨b, o + i * 2, none⟩) hbl).trans Q0.out, (hb.cell (p := ⟨b, o + i * 2 + 1, none⟩) hbl).trans Q1.out⟩
      have KEEP := hid hkeep
      have hval : ∀ wx, Below w.heap.size w wx → Calls Try.prog 85 #[.int .i64 k, .slice (some ⟨b, o, none⟩) n c, .int .u8 v] wx fun e w' => ∃ oc, e = .returned (.slice (some ⟨oc, 0, none⟩) L L) ∧ Bs w' (.slice (some ⟨oc, 0, none⟩) L L) (mixA D ps k L i) ∧ Below wx.heap.size wx w' := fun wx hb => by
        refine (HV.out wx hb v hv2).mono ?_
        rintro e w' ⟨oc, _, rfl, ho, hb2⟩
        refine ⟨oc, rfl, ?_, hb2⟩
        unfold mixA
        rw [HV2.out]
        exact mixL_bs ho (fun i => getD_lt (wts_lt _ _ _) i)
      have HVAL := hid hval
      obtain ⟨S1, hS1⟩ : ∃ S, S = bstr (mixA D ps k L i) := ⟨_, rfl⟩
      obtain ⟨S2, hS2⟩ : ∃ S, S = bstr (D i) := ⟨_, rfl⟩
      have hcv1 : ∀ w a c, Bs w (.slice a L c) (mixA D ps k L i) → (convert 27 9 (.slice a L c)).run Try.prog w = .ok (.string S1) w := fun w a c h => by rw [hS1]; exact conv_bs h
      have hcv2 : ∀ w, Bs w (.slice da L dc) (D i) → (convert 27 9 (.slice da L dc)).run Try.prog w = .ok (.string S2) w := fun w h => by rw [hS2]; exact conv_bs h
      have HCV1 := hid hcv1
      have HCV2 := hid hcv2
      have hbq := bstr_beqC (mixA D ps k L i) (D i) (mixL_lt _ _ _ _ (fun i => getD_lt (wts_lt _ _ _) i)) (HDLT.out i hki)
      rw [← hS1, ← hS2] at hbq
      clear hcv1 hcv2 hS1 hS2
      have hwr : IntKind.u8.wrap (v : Int) = (v : Int) := by rw [IntKind.wrap_u8]; omega
      clear hkeep hval hdd q0 q1
      by_cases heq : mixA D ps k L i = D i
      · rw [decide_eq_true heq] at hbq
        have HEQ := hid heq
        clear heq
        have cvr := HCV2.out _ (show Bs wr.drew (.slice da L dc) (D i) from (HDD.out.below HBW.out).drewN 1)
        have hpre := KEEP.out _ HBW.out
        obtain ⟨r0, r1⟩ := hpre
        go_wp2
        go_region_with (go_at_call 85; refine (HVAL.out _ (bel_drewN HBW.out 1)).mono ?_; rintro e wA ⟨oc, rfl, hbs, hbA⟩; have HBA := hid (known_endR (bel_drewN HBW.out 1) hbA); have cv1 := HCV1.out _ _ _ hbs; have cv2 := HCV2.out _ (HDD.out.below HBA.out); obtain ⟨s0, s1⟩ := KEEP.out _ HBA.out)
        all_goals
          have HG2 := hid (show ∀ q, q < i + 1 → mixA D ps k L q = D q from fun q hq => by
            by_cases e : q = i
            · rw [e]; exact HEQ.out
            · exact HG.out q (by omega))
          go_wp2
          exact ⟨⟨i + 1, by omega, by go_num, HBA, HG2⟩, by simp [intOf]; omega⟩
      · rw [decide_eq_false heq] at hbq
        have HEQ := hid heq
        clear heq
        have cvr := HCV2.out _ (show Bs wr.drew (.slice da L dc) (D i) from (HDD.out.below HBW.out).drewN 1)
        have hpre := KEEP.out _ HBW.out
        obtain ⟨r0, r1⟩ := hpre
        go_wp2
        go_region_with (go_at_call 85; refine (HVAL.out _ (bel_drewN HBW.out 1)).mono ?_; rintro e wA ⟨oc, rfl, hbs, hbA⟩; have HBA := hid (known_endR (bel_drewN HBW.out 1) hbA); have cv1 := HCV1.out _ _ _ hbs; have cv2 := HCV2.out _ (HDD.out.below HBA.out); obtain ⟨s0, s1⟩ := KEEP.out _ HBA.out)
        all_goals
          go_wp2
          go_ret2
          refine ⟨⟨false, rfl, ?_⟩, HBA.out⟩
          simp
          exact ⟨i, Classical.byContradiction fun hc => HEQ.out (HOWN.out i (by omega)), hlt, HEQ.out⟩
    · obtain rfl : i = n := by omega
      go_wp2
      go_ret2
      refine ⟨⟨true, rfl, ?_⟩, HBW.out⟩
      simp
      intro q hq1 hq2
      exact HG.out q hq2
end Go.Proofs.Ytbajekiliplclaa
