/-
  What the condition of a row of chapter 2 gives that lists the reference's variable too. · checkPieces: the first error of a list of pieces. · What a checked list of pieces gives; the object that pieces determine, as a list. · The reference's Times, Over and Power. · The reference's weights. · The reference's mix: the sum of the pieces' data times the weights. · The reference's Length; which sizes are allowed.
-/
import Derived.Test.YtahnihihfheegaaDoorBb6
import Derived.Test.YtahnihihfheegaaDoorBb8
import Derived.Test.YtahnihihfheegaaDoorBb4
import Derived.Deep.DeepCutAuto
import Derived.Test.YtahnihihfheegaaDoorBb3
import Derived.Test.YtahnihihfheegaaDoorBb2
import Derived.Test.YtahnihihfheegaaDoorBb1
import Derived.Deep.QuietTactic
import Derived.BigQuiet
namespace Go.Proofs.YtahnihihfheegaaDoor
open Go Go.RowKit Go.ChangeShapes Go.WideShapes Go.ChangeAt

abbrev laidB : List (String × DataW Unit) := [("stolon/stolonref02.rounds", Rows.laid_stolon_stolonref02_rounds), ("stolon/digest.start", Rows.laid_stolon_digest_start), ("stolon/digest.roundConstants", Rows.laid_stolon_digest_roundConstants)]
theorem gRef : Tryd.prog.globalNamed "stolon/stolonref02.rounds" = some 0 := by kernel_rfl
theorem tRef : (Tryd.prog.globals[0]?).map (·.type) = some 107 := by kernel_rfl
theorem dRef : Rows.laid_stolon_stolonref02_rounds (H := Unit) = Lib.tabData .u32 (shaRound.map fun (n : Nat) => (n : Int)) := by kernel_rfl
theorem both_of_laid {W : World} (h : laidMetH Tryd.prog laidB W) : Vars W shaRound shaStart ∧ Rnds W := by
  rw [MakeChecks.laidMetH_plain _ _ _ (by kernel_rfl)] at h
  have h0 : laidMet Tryd.prog (("stolon/stolonref02.rounds", Lib.tabData .u32 (shaRound.map fun (n : Nat) => (n : Int))) :: ("stolon/digest.start", Lib.tabData .u32 (shaStart.map fun (n : Nat) => (n : Int))) :: ("stolon/digest.roundConstants", Lib.tabData .u32 (shaRound.map fun (n : Nat) => (n : Int))) :: []) W := by
    rw [← dStart, ← dRound]
    exact h
  have h1 := h0.tail
  have h2 := h1.tail
  have r0 := range_of_tab (Lib.tabIs_of_head gRef tRef Tryd.underlying107 Tryd.underlying57 cU32 cRound h0) gRef
  have r1 := range_of_tab (Lib.tabIs_of_head gStart tStart Tryd.underlying108 Tryd.underlying57 cU32 cStart h1) gStart
  have r2 := range_of_tab (Lib.tabIs_of_head gRound tRound Tryd.underlying107 Tryd.underlying57 cU32 cRound h2) gRound
  have b1 : ∀ x ∈ shaStart, x < 4294967296 := by decide
  have b2 : ∀ x ∈ shaRound, x < 4294967296 := by decide
  have hg : ∀ (l : List Nat), (∀ x ∈ l, x < 4294967296) → ∀ i, l.getD i 0 < 4294967296 := fun l hl i => by
    rw [List.getD_eq_getElem?_getD]
    by_cases h : i < l.length
    · rw [List.getElem?_eq_getElem h]; exact hl _ (List.getElem_mem _)
    · rw [List.getElem?_eq_none (by omega)]; decide
  have hc := r2 0 (.int .u32 ((shaRound.getD 0 0 : Nat) : Int)) (by rfl)
  have hc0 := r0 0 (.int .u32 ((shaRound.getD 0 0 : Nat) : Int)) (by rfl)
  exact ⟨⟨r1, r2, World.block_lt_of_cell? _ _ hc, rfl, rfl, hg _ b2, hg _ b1⟩, ⟨r0, World.block_lt_of_cell? _ _ hc0⟩⟩
theorem vars_of_laidB {W : World} (h : laidMetH Tryd.prog laidB W) : Vars W shaRound shaStart := (both_of_laid h).1
theorem rnds_of_laidB {W : World} (h : laidMetH Tryd.prog laidB W) : Rnds W := (both_of_laid h).2
theorem door_metB (os : Os) (args : Array Value) : laidMetH Tryd.prog laidB ((World.doorLaid Tryd.prog 24 os).forCall (fun _ _ => 0) ⟨#[], args, []⟩).memory :=
  laidMetH_of_parts3 (fuel := 8) (laidMet_of_run' 8 (by kernel_rfl) (by kernel_rfl)) (by kernel_rfl) (by kernel_rfl)
end Go.Proofs.YtahnihihfheegaaDoor

namespace Go.Proofs.YtahnihihfheegaaDoor
open Go Go.RowKit
set_option linter.unusedVariables false

/-- the number occurs earlier -/
def occ (idx : Nat → Int) (i : Nat) (v : Int) : Bool := (List.range i).any fun j => idx j == v
theorem occ_iff (idx : Nat → Int) (i : Nat) (v : Int) : occ idx i v = true ↔ ∃ j, j < i ∧ idx j = v := by
  unfold occ
  rw [List.any_eq_true]
  constructor
  · rintro ⟨j, h1, h2⟩; exact ⟨j, List.mem_range.1 h1, by simpa using h2⟩
  · rintro ⟨j, h1, h2⟩; exact ⟨j, List.mem_range.2 h1, by simpa using h2⟩
theorem occ_succ (idx : Nat → Int) (i : Nat) (v : Int) : occ idx (i + 1) v = (occ idx i v || idx i == v) := by
  unfold occ
  rw [List.range_succ, List.any_append]
  simp
/-- the error of piece i -/
def stepE (t : Int) (idx ce : Nat → Int) (i : Nat) : Int := if idx i < 0 ∨ t ≤ idx i then 2 else if occ idx i (idx i) = true then 7 else ce i
/-- the first error of the first pieces, or 0 -/
def chkTo (t : Int) (idx ce : Nat → Int) : Nat → Int
  | 0 => 0
  | i + 1 => if chkTo t idx ce i = 0 then stepE t idx ce i else chkTo t idx ce i
/-- the error of n pieces of which k are needed -/
def chkAll (k t : Int) (idx ce : Nat → Int) (n : Nat) : Int := if chkTo t idx ce n = 0 then (if (n : Int) < k then 12 else 0) else chkTo t idx ce n
theorem chkTo_stop {t : Int} {idx ce : Nat → Int} {i : Nat} (h : chkTo t idx ce i = 0) (h2 : stepE t idx ce i ≠ 0) : ∀ n, i < n → chkTo t idx ce n = stepE t idx ce i
  | 0, hn => absurd hn (Nat.not_lt_zero i)
  | n + 1, hn => by
    unfold chkTo
    by_cases e : i = n
    · subst e; rw [if_pos h]
    · rw [chkTo_stop h h2 n (by omega), if_neg h2]
theorem chkAll_stop {k t : Int} {idx ce : Nat → Int} {i n : Nat} (h : chkTo t idx ce i = 0) (h2 : stepE t idx ce i ≠ 0) (hn : i < n) : chkAll k t idx ce n = stepE t idx ce i := by
  unfold chkAll
  rw [chkTo_stop h h2 n hn, if_neg h2]
theorem chkTo_next {t : Int} {idx ce : Nat → Int} {i : Nat} (h : chkTo t idx ce i = 0) (h2 : stepE t idx ce i = 0) : chkTo t idx ce (i + 1) = 0 := by
  unfold chkTo
  rw [if_pos h, h2]
/-- the flags -/
def flags (idx : Nat → Int) (i : Nat) : Array Value := ((List.range 255).map fun v => Value.bool (occ idx i (v : Nat))).toArray
theorem flags_zero (idx : Nat → Int) : flags idx 0 = Array.replicate 255 (.bool false) := by
  apply Array.ext'
  rw [Array.toList_replicate, List.eq_replicate_iff]
  refine ⟨?_, fun b hb => ?_⟩
  · show ((List.range 255).map _).length = 255
    rw [List.length_map, List.length_range]
  · obtain ⟨x, _, rfl⟩ := List.mem_map.1 hb
    rfl
theorem flags_get (idx : Nat → Int) (i v : Nat) (hv : v < 255) : (flags idx i)[v]? = some (.bool (occ idx i v)) := by
  unfold flags
  simp [List.getElem?_range hv]
theorem flags_set (idx : Nat → Int) (i v : Nat) (hv : v < 255) (h : idx i = v) : (flags idx i).setIfInBounds v (.bool true) = flags idx (i + 1) := by
  apply Array.ext'
  unfold flags
  rw [Array.toList_setIfInBounds]
  apply List.ext_getElem?
  intro j
  rw [List.getElem?_set]
  by_cases e : v = j
  · subst e
    simp [hv, occ_succ, h]
  · rw [if_neg e]
    by_cases hj : j < 255
    · simp [hj, occ_succ, h]
      intro e2; omega
    · rw [List.getElem?_eq_none (by simp; omega), List.getElem?_eq_none (by simp; omega)]

theorem lenIs_any (a : Option Addr) (n c lb : Nat) (L : Int) (w : World) (hL : w.cell? ⟨lb, 0, none⟩ = some (.int .i64 L)) :
    Calls Tryd.prog 51 #[.slice a n c, .pointer (some ⟨lb, 0, none⟩)] w fun e w' => e = .returned (.int .i64 (if (n : Int) = L then 0 else 10)) ∧ w = w' := by
  by_cases h : (n : Int) = L
  · have b1 : ((n : Int) != L) = false := by simp [h]
    have H := hid h
    clear h
    go_enter Tryd.func51, Tryd.ntmps51
    go_wp2
    go_ret
    exact ⟨rfl, rfl⟩
  · have b1 : ((n : Int) != L) = true := by simp [h]
    have H := hid h
    clear h
    go_enter Tryd.func51, Tryd.ntmps51
    go_wp2
    go_ret
    exact ⟨rfl, rfl⟩

/-- what a list of pieces gives: the numbers -/
def pidx (ps : List (Int × Sl)) (i : Nat) : Int := (ps.getD i (0, none, 0, 0)).1
def plen' (ps : List (Int × Sl)) (i : Nat) : Nat := (ps.getD i (0, none, 0, 0)).2.2.1
theorem pidx_at (ps : List (Int × Sl)) (i : Nat) (h : i < ps.length) : ps[i].1 = pidx ps i := by
  unfold pidx
  rw [List.getD_eq_getElem?_getD, List.getElem?_eq_getElem h]; rfl
theorem plen_at (ps : List (Int × Sl)) (i : Nat) (h : i < ps.length) : ps[i].2.2.1 = plen' ps i := by
  unfold plen'
  rw [List.getD_eq_getElem?_getD, List.getElem?_eq_getElem h]; rfl

theorem zero_flags (idx : Nat → Int) : Tryd.zeroCells120 = flags idx 0 := by
  rw [flags_zero]
  kernel_rfl
/-- what the loop keeps -/
structure ChkI (k t : Int) (idx ce : Nat → Int) (w wr : World) (i : Nat) : Prop where
  seen : wr.heap[w.heap.size]? = some (.cells (flags idx i) 120 (0, 0))
  below : Below w.heap.size w wr
  clean : chkTo t idx ce i = 0
theorem bel_sa {w wr : World} (h : Below w.heap.size w wr) (v : Nat) (u : Value) (o : Obj) : Below w.heap.size w ((wr.setCell ⟨w.heap.size, v, none⟩ u).alloc o) :=
  (h.setCell (p := ⟨w.heap.size, v, none⟩) (Nat.le_refl _) u).alloc (by simp; exact h.size) o
theorem ChkI.next {k t : Int} {idx ce : Nat → Int} {w wr : World} {i v : Nat} (h : ChkI k t idx ce w wr i) (o : Obj) (hv : idx i = v) (hv2 : v < 255) (ht : idx i < t) (hocc : occ idx i v = false) (hce : ce i = 0) : ChkI k t idx ce w ((wr.setCell ⟨w.heap.size, v, none⟩ (.bool true)).alloc o) (i + 1) := by
  refine ⟨heap_alloc ?_ o, bel_sa h.below v _ o, chkTo_next h.clean ?_⟩
  · have h5 := heap_set h.seen v (.bool true)
    rwa [flags_set idx i v hv2 hv] at h5
  · unfold stepE
    rw [if_neg (by omega), hv, if_neg (by rw [hocc]; decide), hce]

set_option maxRecDepth 100000 in
set_option maxHeartbeats 2000000 in
theorem chkD_any (k t : Int) (a : Option Addr) (n c lb : Nat) (L : Int) (ps : List (Int × Sl)) (w : World) (ht : t ≤ 255) (hp : Ps w (.slice a n c) ps) (hL : w.cell? ⟨lb, 0, none⟩ = some (.int .i64 L)) (hlb : lb < w.heap.size) (hn : n ≤ 100000) :
    Calls Tryd.prog 50 #[.int .i64 k, .int .i64 t, .slice a n c, .func (.func 51) #[] #[.pointer (some ⟨lb, 0, none⟩)]] w fun e w' => e = .returned (.int .i64 (chkAll k t (pidx ps) (fun i => if ((plen' ps i : Nat) : Int) = L then 0 else 10) n)) ∧ Below w.heap.size w w' := by
  have hnp : n = ps.length := by obtain ⟨_, _, h, _⟩ := hp; simp at h; exact h.2.1
  have HN := hid hnp
  have HP := hid hp
  have HL := hid hL
  clear hnp hp hL
  obtain ⟨ce, hce⟩ : ∃ ce : Nat → Int, ce = fun i => if ((plen' ps i : Nat) : Int) = L then 0 else 10 := ⟨_, rfl⟩
  have HCE := hid hce
  rw [← hce]
  clear hce
  have h0 : ChkI k t (pidx ps) ce w (w.alloc (.cells Tryd.zeroCells120 120)) 0 := ⟨by rw [zero_flags (pidx ps)]; exact heap_new _ _, (Below.refl _ _).alloc (Nat.le_refl _) _, rfl⟩
  have HINV := hid h0
  clear h0
  go_enter Tryd.func50, Tryd.ntmps50
  go_wp2
  go_loopw [15] (fun iv wr => ∃ i : Nat, i ≤ n ∧ iv = .int .i64 i ∧ Hid (ChkI k t (pidx ps) ce w wr i)) (fun iv _ => n - (intOf iv).toNat)
  case atStart => exact ⟨0, by omega, rfl, HINV⟩
  case round =>
    clear HINV
    obtain ⟨i, hi, rfl, HINV⟩ := hrel
    by_cases hlt : i < n
    · have HPr := HP.out.below HINV.out.below
      obtain ⟨b, o, rfl⟩ : ∃ b o, a = some ⟨b, o, none⟩ := by
        obtain ⟨a', c', h1, h3⟩ := HPr
        obtain ⟨b, o, ha, _⟩ := h3 (by intro e; rw [e] at HN; have := HN.out; simp at this; omega)
        simp at h1
        exact ⟨b, o, h1.1.trans ha⟩
      have hcs := HPr.cells i (by rw [← HN.out]; exact hlt)
      obtain ⟨q0, q1⟩ := hcs
      rw [pidx_at] at q0
      rw [plen_at] at q1
      have hsz : w.heap.size < wr.heap.size := lt_of_heap HINV.out.seen
      clear HPr
      generalize hda : (ps[i]'_).2.1 = da at *
      generalize hdc : (ps[i]'_).2.2.2 = dc at *
      clear hda hdc
      by_cases hbad : pidx ps i < 0 ∨ t ≤ pidx ps i
      · have hst : chkAll k t (pidx ps) ce n = 2 := by
          have h2 : stepE t (pidx ps) ce i = 2 := by unfold stepE; rw [if_pos hbad]
          rw [chkAll_stop HINV.out.clean (by rw [h2]; decide) hlt, h2]
        have HST := hid hst
        clear hst
        have hbe := HINV.out.below
        generalize pidx ps i = v at *
        by_cases h0 : v < 0
        · clear hbad
          go_wp2
          go_ret
          exact ⟨ret_int HST.out.symm, hbe.alloc hbe.size _⟩
        · have h1 : t ≤ v := by omega
          clear hbad
          go_wp2
          go_ret
          exact ⟨ret_int HST.out.symm, hbe.alloc hbe.size _⟩
      · obtain ⟨v, hv⟩ : ∃ v : Nat, pidx ps i = v := ⟨(pidx ps i).toNat, by omega⟩
        have hvt : (v : Int) < t := by omega
        have hv2 : v < 255 := by omega
        have cv := cell_of_heap HINV.out.seen v
        rw [flags_get _ _ _ hv2] at cv
        have fv := free_of_heap HINV.out.seen v
        have hbe := HINV.out.below
        rw [hv] at q0
        have HV := hid hv
        clear hbad hv
        by_cases hoc : occ (pidx ps) i v = true
        · rw [hoc] at cv
          have hst : chkAll k t (pidx ps) ce n = 7 := by
            have h2 : stepE t (pidx ps) ce i = 7 := by unfold stepE; rw [if_neg (by rw [HV.out]; omega), HV.out, if_pos hoc]
            rw [chkAll_stop HINV.out.clean (by rw [h2]; decide) hlt, h2]
          have HST := hid hst
          clear hst hoc
          go_wp2
          go_ret
          exact ⟨ret_int HST.out.symm, hbe.alloc hbe.size _⟩
        · have hoc : occ (pidx ps) i v = false := by simpa using hoc
          rw [hoc] at cv
          have HOC := hid hoc
          clear hoc
          go_wp2_with fail
          refine (lenIs_any _ _ _ lb L _ ?_).mono ?_
          · exact ((bel_sa hbe v _ _).cell (p := ⟨lb, 0, none⟩) hlb).trans HL.out
          rintro e w5 ⟨rfl, rfl⟩
          by_cases hln : ((plen' ps i : Nat) : Int) = L
          · have NX := hid (HINV.out.next (Obj.cells #[.int .i64 v, .slice da (plen' ps i) dc] 44) HV.out hv2 (by rw [HV.out]; exact hvt) HOC.out (by rw [HCE.out]; exact if_pos hln))
            rw [if_pos hln]
            clear hln cv fv q0 q1
            go_wp2
            exact ⟨⟨i + 1, by omega, by go_num, NX⟩, by simp [intOf]; omega⟩
          · rw [if_neg hln]
            have hst : chkAll k t (pidx ps) ce n = 10 := by
              have h2 : stepE t (pidx ps) ce i = 10 := by unfold stepE; rw [if_neg (by rw [HV.out]; omega), HV.out, if_neg (by rw [HOC.out]; decide), HCE.out]; exact if_neg hln
              rw [chkAll_stop HINV.out.clean (by rw [h2]; decide) hlt, h2]
            have HST := hid hst
            clear hst hln cv fv q0 q1
            go_wp2
            go_ret
            exact ⟨ret_int HST.out.symm, bel_sa hbe v _ _⟩
    · obtain rfl : i = n := by omega
      have hbe := HINV.out.below
      by_cases hk : (i : Int) < k
      · have hst : chkAll k t (pidx ps) ce i = 12 := by unfold chkAll; rw [if_pos HINV.out.clean, if_pos hk]
        have HST := hid hst
        clear hst
        go_wp2
        go_ret
        exact ⟨ret_int HST.out.symm, hbe⟩
      · have hst : chkAll k t (pidx ps) ce i = 0 := by unfold chkAll; rw [if_pos HINV.out.clean, if_neg hk]
        have HST := hid hst
        clear hst
        go_wp2
        go_ret
        exact ⟨ret_int HST.out.symm, hbe⟩
/-- the error of a piece's bytes, by the first one's length -/
def alikeL (L0 n : Nat) : Int := if 8192 < n then 3 else if n = L0 then 0 else 10
def alikeE (ps : List (Int × Sl)) (i : Nat) : Int := alikeL (plen' ps 0) (plen' ps i)
theorem alike_any (a : Option Addr) (n c lb : Nat) (m mc : Nat) (w : World) (b o : Nat) (da : Option Addr) (dc L0 : Nat) (hL : w.cell? ⟨lb, 0, none⟩ = some (.slice (some ⟨b, o, none⟩) m mc)) (hm : 0 < m) (h0 : w.cell? ⟨b, o + 1, none⟩ = some (.slice da L0 dc)) :
    Calls Tryd.prog 76 #[.slice a n c, .pointer (some ⟨lb, 0, none⟩)] w fun e w' => e = .returned (.int .i64 (alikeL L0 n)) ∧ w = w' := by
  unfold alikeL
  by_cases h1 : 8192 < n
  · have b1 : decide ((8192 : Int) < (n : Int)) = true := by simp; omega
    rw [if_pos h1]
    go_enter Tryd.func76, Tryd.ntmps76
    go_wp2
    go_ret
    exact ⟨rfl, rfl⟩
  · have b1 : decide ((8192 : Int) < (n : Int)) = false := by simp; omega
    rw [if_neg h1]
    by_cases h : n = L0
    · have b2 : ((n : Int) != (L0 : Int)) = false := by simp [h]
      rw [if_pos h]
      have H := hid h
      clear h
      go_enter Tryd.func76, Tryd.ntmps76
      go_wp2
      go_ret
      exact ⟨rfl, rfl⟩
    · have b2 : ((n : Int) != (L0 : Int)) = true := by simp; omega
      rw [if_neg h]
      have H := hid h
      clear h
      go_enter Tryd.func76, Tryd.ntmps76
      go_wp2
      go_ret
      exact ⟨rfl, rfl⟩

set_option maxRecDepth 100000 in
set_option maxHeartbeats 2000000 in
theorem chkA_any (k t : Int) (a : Option Addr) (n c lb : Nat) (ps : List (Int × Sl)) (w : World) (ht : t ≤ 255) (hp : Ps w (.slice a n c) ps) (hL : w.cell? ⟨lb, 0, none⟩ = some (.slice a n c)) (hlb : lb < w.heap.size) (hn : n ≤ 100000) :
    Calls Tryd.prog 50 #[.int .i64 k, .int .i64 t, .slice a n c, .func (.func 76) #[] #[.pointer (some ⟨lb, 0, none⟩)]] w fun e w' => e = .returned (.int .i64 (chkAll k t (pidx ps) (alikeE ps) n)) ∧ Below w.heap.size w w' := by
  have hnp : n = ps.length := by obtain ⟨_, _, h, _⟩ := hp; simp at h; exact h.2.1
  have HN := hid hnp
  have HP := hid hp
  have HL := hid hL
  clear hnp hp hL
  obtain ⟨ce, hce⟩ : ∃ ce : Nat → Int, ce = alikeE ps := ⟨_, rfl⟩
  have HCE := hid hce
  rw [← hce]
  clear hce
  have h0 : ChkI k t (pidx ps) ce w (w.alloc (.cells Tryd.zeroCells120 120)) 0 := ⟨by rw [zero_flags (pidx ps)]; exact heap_new _ _, (Below.refl _ _).alloc (Nat.le_refl _) _, rfl⟩
  have HINV := hid h0
  clear h0
  go_enter Tryd.func50, Tryd.ntmps50
  go_wp2
  go_loopw [15] (fun iv wr => ∃ i : Nat, i ≤ n ∧ iv = .int .i64 i ∧ Hid (ChkI k t (pidx ps) ce w wr i)) (fun iv _ => n - (intOf iv).toNat)
  case atStart => exact ⟨0, by omega, rfl, HINV⟩
  case round =>
    clear HINV
    obtain ⟨i, hi, rfl, HINV⟩ := hrel
    by_cases hlt : i < n
    · have HPr := HP.out.below HINV.out.below
      obtain ⟨b, o, rfl⟩ : ∃ b o, a = some ⟨b, o, none⟩ := by
        obtain ⟨a', c', h1, h3⟩ := HPr
        obtain ⟨b, o, ha, _⟩ := h3 (by intro e; rw [e] at HN; have := HN.out; simp at this; omega)
        simp at h1
        exact ⟨b, o, h1.1.trans ha⟩
      have hcs := HPr.cells i (by rw [← HN.out]; exact hlt)
      obtain ⟨q0, q1⟩ := hcs
      rw [pidx_at] at q0
      rw [plen_at] at q1
      have hsz : w.heap.size < wr.heap.size := lt_of_heap HINV.out.seen
      clear HPr
      generalize hda : (ps[i]'_).2.1 = da at *
      generalize hdc : (ps[i]'_).2.2.2 = dc at *
      clear hda hdc
      by_cases hbad : pidx ps i < 0 ∨ t ≤ pidx ps i
      · have hst : chkAll k t (pidx ps) ce n = 2 := by
          have h2 : stepE t (pidx ps) ce i = 2 := by unfold stepE; rw [if_pos hbad]
          rw [chkAll_stop HINV.out.clean (by rw [h2]; decide) hlt, h2]
        have HST := hid hst
        clear hst
        have hbe := HINV.out.below
        generalize pidx ps i = v at *
        by_cases h0 : v < 0
        · clear hbad
          go_wp2
          go_ret
          exact ⟨ret_int HST.out.symm, hbe.alloc hbe.size _⟩
        · have h1 : t ≤ v := by omega
          clear hbad
          go_wp2
          go_ret
          exact ⟨ret_int HST.out.symm, hbe.alloc hbe.size _⟩
      · obtain ⟨v, hv⟩ : ∃ v : Nat, pidx ps i = v := ⟨(pidx ps i).toNat, by omega⟩
        have hvt : (v : Int) < t := by omega
        have hv2 : v < 255 := by omega
        have cv := cell_of_heap HINV.out.seen v
        rw [flags_get _ _ _ hv2] at cv
        have fv := free_of_heap HINV.out.seen v
        have hbe := HINV.out.below
        rw [hv] at q0
        have HV := hid hv
        clear hbad hv
        by_cases hoc : occ (pidx ps) i v = true
        · rw [hoc] at cv
          have hst : chkAll k t (pidx ps) ce n = 7 := by
            have h2 : stepE t (pidx ps) ce i = 7 := by unfold stepE; rw [if_neg (by rw [HV.out]; omega), HV.out, if_pos hoc]
            rw [chkAll_stop HINV.out.clean (by rw [h2]; decide) hlt, h2]
          have HST := hid hst
          clear hst hoc
          go_wp2
          go_ret
          exact ⟨ret_int HST.out.symm, hbe.alloc hbe.size _⟩
        · have hoc : occ (pidx ps) i v = false := by simpa using hoc
          rw [hoc] at cv
          have HOC := hid hoc
          clear hoc
          go_wp2_with fail
          have hz := (HP.out.below (bel_sa hbe v (.bool true) (Obj.cells #[.int .i64 v, .slice da (plen' ps i) dc] 44))).cells 0 (by rw [← HN.out]; omega)
          have hz1 := hz.2
          rw [plen_at, Nat.zero_mul, Nat.add_zero] at hz1
          refine (alike_any _ _ _ lb n c _ b o _ _ (plen' ps 0) ?_ (by omega) hz1).mono ?_
          · exact ((bel_sa hbe v _ _).cell (p := ⟨lb, 0, none⟩) hlb).trans HL.out
          clear hz hz1
          rintro e w5 ⟨rfl, rfl⟩
          by_cases hln : alikeL (plen' ps 0) (plen' ps i) = 0
          · have NX := hid (HINV.out.next (Obj.cells #[.int .i64 v, .slice da (plen' ps i) dc] 44) HV.out hv2 (by rw [HV.out]; exact hvt) HOC.out (by rw [HCE.out]; exact hln))
            rw [hln]
            clear hln cv fv q0 q1
            go_wp2
            exact ⟨⟨i + 1, by omega, by go_num, NX⟩, by simp [intOf]; omega⟩
          · have hst : chkAll k t (pidx ps) ce n = alikeL (plen' ps 0) (plen' ps i) := by
              have h2 : stepE t (pidx ps) ce i = alikeL (plen' ps 0) (plen' ps i) := by unfold stepE; rw [if_neg (by rw [HV.out]; omega), HV.out, if_neg (by rw [HOC.out]; decide), HCE.out]; rfl
              rw [chkAll_stop HINV.out.clean (by rw [h2]; exact hln) hlt, h2]
            have HST := hid hst
            have bn : (alikeL (plen' ps 0) (plen' ps i) != 0) = true := by simpa using hln
            clear hst hln cv fv q0 q1
            generalize alikeL (plen' ps 0) (plen' ps i) = ee at *
            go_wp2
            go_ret
            exact ⟨ret_int HST.out.symm, bel_sa hbe v _ _⟩
    · obtain rfl : i = n := by omega
      have hbe := HINV.out.below
      by_cases hk : (i : Int) < k
      · have hst : chkAll k t (pidx ps) ce i = 12 := by unfold chkAll; rw [if_pos HINV.out.clean, if_pos hk]
        have HST := hid hst
        clear hst
        go_wp2
        go_ret
        exact ⟨ret_int HST.out.symm, hbe⟩
      · have hst : chkAll k t (pidx ps) ce i = 0 := by unfold chkAll; rw [if_pos HINV.out.clean, if_neg hk]
        have HST := hid hst
        clear hst
        go_wp2
        go_ret
        exact ⟨ret_int HST.out.symm, hbe⟩

set_option maxRecDepth 100000 in
theorem checkAlike_any (k t : Int) (a : Option Addr) (n c : Nat) (ps : List (Int × Sl)) (w : World) (ht : t ≤ 255) (hp : Ps w (.slice a n c) ps) (hn : n ≤ 100000) :
    Calls Tryd.prog 61 #[.int .i64 k, .int .i64 t, .slice a n c] w fun e w' => e = .returned (.int .i64 (chkAll k t (pidx ps) (alikeE ps) n)) ∧ Below w.heap.size w w' := by
  have HP := hid hp
  clear hp
  have hmf : ∀ (fn : Fn) (first cap : Array Value) (w : World), (Instr.makeFunc fn first cap).run Tryd.prog w = .ok (.func fn first cap) w := fun _ _ _ _ => rfl
  go_enter Tryd.func61, Tryd.ntmps61
  go_wp2_with fail
  refine (chkA_any k t a n c w.heap.size ps _ ht (HP.out.below ((Below.refl _ _).alloc (Nat.le_refl _) _)) (by simp [World.cell?_alloc_new]) (by simp) hn).mono ?_
  rintro e w5 ⟨rfl, hb⟩
  go_wp2
  go_ret
  exact ⟨rfl, ((Below.refl _ _).alloc (Nat.le_refl _) _).trans (hb.mono (by simp))⟩
end Go.Proofs.YtahnihihfheegaaDoor

namespace Go.Proofs.YtahnihihfheegaaDoor
open Go Go.RowKit
set_option linter.unusedVariables false

theorem chkTo_all {t : Int} {idx ce : Nat → Int} : ∀ {n : Nat}, chkTo t idx ce n = 0 → ∀ i, i < n → stepE t idx ce i = 0
  | 0, _, i, hi => absurd hi (Nat.not_lt_zero i)
  | n + 1, h, i, hi => by
    unfold chkTo at h
    by_cases h0 : chkTo t idx ce n = 0
    · rw [if_pos h0] at h
      by_cases e : i = n
      · rw [e]; exact h
      · exact chkTo_all h0 i (by omega)
    · rw [if_neg h0] at h
      exact absurd h h0
/-- what a checked list gives -/
structure Fit (k t : Int) (idx ce : Nat → Int) (n : Nat) : Prop where
  few : k ≤ n
  lo : ∀ i, i < n → 0 ≤ idx i
  hi : ∀ i, i < n → idx i < t
  ne : ∀ j i, j < i → i < n → idx j ≠ idx i
  ok : ∀ i, i < n → ce i = 0
theorem fit_of {k t : Int} {idx ce : Nat → Int} {n : Nat} (h : chkAll k t idx ce n = 0) : Fit k t idx ce n := by
  unfold chkAll at h
  by_cases h0 : chkTo t idx ce n = 0
  · rw [if_pos h0] at h
    have hk : k ≤ n := by
      by_cases e : (n : Int) < k
      · rw [if_pos e] at h; omega
      · omega
    have hs : ∀ i, i < n → ¬ (idx i < 0 ∨ t ≤ idx i) ∧ occ idx i (idx i) ≠ true ∧ ce i = 0 := fun i hi => by
      have h2 := chkTo_all h0 i hi
      unfold stepE at h2
      by_cases e1 : idx i < 0 ∨ t ≤ idx i
      · rw [if_pos e1] at h2; omega
      · rw [if_neg e1] at h2
        by_cases e2 : occ idx i (idx i) = true
        · rw [if_pos e2] at h2; omega
        · rw [if_neg e2] at h2
          exact ⟨e1, e2, h2⟩
    exact ⟨hk, fun i hi => by have := (hs i hi).1; omega, fun i hi => by have := (hs i hi).1; omega, fun j i hj hi e => (hs i hi).2.1 ((occ_iff _ _ _).2 ⟨j, hj, e⟩), fun i hi => (hs i hi).2.2⟩
  · rw [if_neg h0] at h
    exact absurd h h0
/-- the numbers of the first k pieces -/
def places (ps : List (Int × Sl)) (k : Nat) : List Nat := (List.range k).map fun i => (pidx ps i).toNat
theorem places_length (ps : List (Int × Sl)) (k : Nat) : (places ps k).length = k := by simp [places]
theorem places_getD (ps : List (Int × Sl)) (k i : Nat) (h : i < k) : (places ps k).getD i 0 = (pidx ps i).toNat := by
  unfold places
  rw [List.getD_eq_getElem?_getD, List.getElem?_map, List.getElem?_range h]; rfl
theorem places_lt {ps : List (Int × Sl)} {k n : Nat} {t : Int} {ce : Nat → Int} (h : Fit k t (pidx ps) ce n) (ht : t ≤ 255) : ∀ x ∈ places ps k, x < 256 := fun x hx => by
  obtain ⟨i, hi, rfl⟩ := List.mem_map.1 hx
  have hi := List.mem_range.1 hi
  have h1 := h.few
  have h2 := h.hi i (by omega)
  omega
theorem places_nodup {ps : List (Int × Sl)} {k n : Nat} {t : Int} {ce : Nat → Int} (h : Fit k t (pidx ps) ce n) : (places ps k).Nodup := by
  have h1 := h.few
  unfold places
  rw [List.nodup_iff_pairwise_ne, List.pairwise_map]
  refine (List.pairwise_lt_range (n := k)).imp_of_mem fun {a b} ha hb hab e => ?_
  have hb := List.mem_range.1 hb
  have ha := List.mem_range.1 ha
  have h2 := h.lo a (by omega)
  have h3 := h.lo b (by omega)
  exact h.ne a b hab (by omega) (by omega)
theorem Ps.take {w : World} {a : Option Addr} {n c k : Nat} {ps : List (Int × Sl)} (h : Ps w (.slice a n c) ps) (hk : k ≤ n) : Ps w (.slice a k c) (ps.take k) := by
  obtain ⟨a', c', h1, h3⟩ := h
  simp only [Value.slice.injEq] at h1
  obtain ⟨rfl, rfl, rfl⟩ := h1
  refine ⟨a, c, by rw [List.length_take, Nat.min_eq_left hk], fun hne => ?_⟩
  have hk0 : k ≠ 0 := fun e => hne (by rw [e]; rfl)
  obtain ⟨b, o, ha, hc⟩ := h3 (by intro e; rw [e] at hk; simp at hk; omega)
  refine ⟨b, o, ha, fun i hi => ?_⟩
  have hi2 : i < ps.length := by rw [List.length_take] at hi; omega
  rw [List.getElem_take]
  exact hc i hi2
/-- the byte of the object at p -/
def joinF (D : List (List Nat)) (l : List Nat) (L k p : Nat) : Nat := (mixL D (wts l (scales l) (p / L)) L k).getD (p % L) 0
/-- the object -/
def joinL (D : List (List Nat)) (l : List Nat) (L k size : Nat) : List Nat := (List.range size).map (joinF D l L k)
theorem splice_upTo (n : Nat) (f : Nat → Nat) (q : Nat) (P : List Nat) (hq : q + P.length ≤ n) (hf : ∀ c, c < P.length → f (q + c) = P.getD c 0) : splice (u8s (upTo n f q)) q (u8s P) = u8s (upTo n f (q + P.length)) := by
  apply List.ext_getElem?
  intro c
  have hl1 : ((u8s (upTo n f q)).take q).length = q := by simp [u8s, upTo]; omega
  unfold splice
  by_cases h1 : c < q
  · rw [List.getElem?_append_left (by rw [hl1]; exact h1), List.getElem?_take_of_lt h1]
    unfold u8s upTo
    rw [List.getElem?_map, List.getElem?_map, List.getElem?_map, List.getElem?_map]
    by_cases h2 : c < n
    · rw [List.getElem?_range h2]
      simp only [Option.map_some]
      rw [if_pos h1, if_pos (by omega)]
    · omega
  · rw [List.getElem?_append_right (by rw [hl1]; omega), hl1]
    by_cases h2 : c < q + P.length
    · have h3 : c - q < P.length := by omega
      rw [List.getElem?_append_left (by simp [u8s]; omega)]
      unfold u8s upTo
      rw [List.getElem?_map, List.getElem?_map, List.getElem?_map, List.getElem?_range (by omega), List.getElem?_eq_getElem h3]
      simp only [Option.map_some]
      have h4 := hf (c - q) h3
      rw [show q + (c - q) = c from by omega, List.getD_eq_getElem?_getD, List.getElem?_eq_getElem h3] at h4
      rw [if_pos h2, h4]
      rfl
    · rw [List.getElem?_append_right (by simp [u8s]; omega), List.getElem?_drop]
      have e : q + (u8s P).length + (c - q - (u8s P).length) = c := by simp [u8s]; omega
      rw [e]
      unfold u8s upTo
      rw [List.getElem?_map, List.getElem?_map, List.getElem?_map, List.getElem?_map]
      by_cases h4 : c < n
      · rw [List.getElem?_range h4]
        simp only [Option.map_some]
        rw [if_neg h1, if_neg h2]
      · rw [List.getElem?_eq_none (by simp; omega)]
        rfl
theorem u8s_oneC (l : List Nat) : ∀ v ∈ u8s l, v.oneCell' = true := by
  intro v hv
  unfold u8s at hv
  obtain ⟨x, _, rfl⟩ := List.mem_map.1 hv
  rfl
theorem joinF_at (D : List (List Nat)) (l : List Nat) (L k i c : Nat) (hc : c < L) : joinF D l L k (i * L + c) = (mixL D (wts l (scales l) i) L k).getD c 0 := by
  unfold joinF
  have h1 : (i * L + c) / L = i := by
    rw [Nat.mul_comm, Nat.mul_add_div (by omega), Nat.div_eq_of_lt hc, Nat.add_zero]
  have h2 : (i * L + c) % L = c := by
    rw [Nat.mul_comm, Nat.mul_add_mod, Nat.mod_eq_of_lt hc]
  rw [h1, h2]
end Go.Proofs.YtahnihihfheegaaDoor

namespace Go.Proofs.YtahnihihfheegaaDoor
open Go.RowKit

theorem testk : ∀ y : Nat, y < 256 → ∀ k : Nat, k < 8 → ((y &&& (2 ^ k % 256)) != 0) = y.testBit k := by decide +kernel
theorem bitk (y k : Nat) (hy : y < 256) (hk : k < 8) : (bits .and .u8 (y : Int) (2 ^ k % 256) != 0) = y.testBit k := by
  have e : ((2 : Int) ^ k % 256) = ((2 ^ k % 256 : Nat) : Int) := by simp
  rw [e, u8_and_nat y _ hy (by omega), ← testk y hy k hk]
  generalize (y &&& (2 ^ k % 256)) = z
  rw [Bool.eq_iff_iff]; simp
theorem hi128 (a : Nat) (ha : a < 256) : (bits .and .u8 (a : Int) 128 != 0) = decide (128 ≤ a) := by
  rw [and128 a ha]
  by_cases h : a < 128
  · rw [and128_lo a ha h, decide_eq_false (by omega)]; rfl
  · rw [and128_hi a ha (by omega), decide_eq_true (by omega)]; rfl

set_option maxRecDepth 100000 in
/-- Times -/
theorem Times_any (x y : Nat) (hx : x < 256) (hy : y < 256) (w : World) :
    Calls Tryd.prog 85 #[.int .u8 x, .int .u8 y] w fun e w' => e = .returned (.int .u8 (Gf.tm x y)) ∧ w = w' := by
  go_enter Tryd.func85, Tryd.ntmps85
  go_wp2
  go_loop [0, 5, 6] (fun a p i => ∃ k : Nat, k ≤ 8 ∧ i = .int .i64 k ∧ p = .int .u8 (Gf.tmTo x y k).1 ∧ a = .int .u8 (Gf.tmTo x y k).2) (fun _ _ i => 8 - (intOf i).toNat)
  case atStart => exact ⟨0, by omega, rfl, rfl, rfl⟩
  case round =>
    obtain ⟨k, hk, rfl, rfl, rfl⟩ := hrel
    by_cases hlt : k < 8
    · obtain ⟨h1, h2⟩ := Gf.tmTo_lt x y hx k
      have hs : Gf.tmTo x y (k + 1) = Gf.tmStep y k (Gf.tmTo x y k) := rfl
      have HS := hid hs
      clear hs
      generalize Gf.tmTo x y k = s at *
      obtain ⟨p, a⟩ := s
      have hb := bitk y k hy hlt
      have hh := hi128 a h2
      have hx1 := hid (u8_xor_nat p a h1 h2)
      by_cases ha : a < 128
      · have hd := hid (dbl_lo a ha)
        rw [decide_eq_false (by omega)] at hh
        cases ht : y.testBit k
        · rw [ht] at hb
          have HT := hid ht
          clear ht
          go_wp2
          exact ⟨⟨k + 1, by omega, by go_num, by rw [HS.out]; simp [Gf.tmStep, HT.out], by rw [HS.out, hd.out]; rfl⟩, by simp [intOf]; omega⟩
        · rw [ht] at hb
          have HT := hid ht
          clear ht
          go_wp2
          exact ⟨⟨k + 1, by omega, by go_num, by rw [HS.out, hx1.out]; simp [Gf.tmStep, HT.out], by rw [HS.out, hd.out]; rfl⟩, by simp [intOf]; omega⟩
      · have hd := hid (dbl_hi a h2 ha)
        rw [decide_eq_true (by omega)] at hh
        cases ht : y.testBit k
        · rw [ht] at hb
          have HT := hid ht
          clear ht
          go_wp2
          exact ⟨⟨k + 1, by omega, by go_num, by rw [HS.out]; simp [Gf.tmStep, HT.out], by rw [HS.out, hd.out]; rfl⟩, by simp [intOf]; omega⟩
        · rw [ht] at hb
          have HT := hid ht
          clear ht
          go_wp2
          exact ⟨⟨k + 1, by omega, by go_num, by rw [HS.out, hx1.out]; simp [Gf.tmStep, HT.out], by rw [HS.out, hd.out]; rfl⟩, by simp [intOf]; omega⟩
    · obtain rfl : k = 8 := by omega
      go_wp2
      go_ret
      exact ⟨rfl, rfl⟩

/-- the least number from i on whose product with x is 1, looked for below 256 -/
theorem over_spec (x : Nat) (hx : x < 256) (k : Nat) (hk : k < 256) (h : Gf.tm x k = 1) : k = Gf.iv x := Gf.iv_unique x k hx hk h
theorem bool_one (n : Nat) : ((n : Int) == 1) = decide (n = 1) := by rw [Bool.eq_iff_iff]; simp; omega

set_option maxRecDepth 100000 in
/-- Over -/
theorem Over_any (x : Nat) (hx : x < 256) (w : World) :
    Calls Tryd.prog 86 #[.int .u8 x] w fun e w' => e = .returned (.int .u8 (if x = 0 then 0 else Gf.iv x : Nat)) ∧ w = w' := by
  obtain ⟨r, hr⟩ : ∃ r : Nat, r = if x = 0 then 0 else Gf.iv x := ⟨_, rfl⟩
  rw [← hr]
  have hex : x ≠ 0 → Gf.tm x r = 1 ∧ r < 256 ∧ 1 ≤ r := fun h0 => by
    rw [if_neg h0] at hr; subst hr
    exact ⟨Gf.tm_iv x hx h0, Gf.iv_lt x, by have := Gf.iv_pos x; omega⟩
  have HR := hid hr
  have HX := hid hex
  clear hr hex
  go_enter Tryd.func86, Tryd.ntmps86
  go_wp2
  go_loop [3] (fun i => ∃ k : Nat, 1 ≤ k ∧ k ≤ 256 ∧ i = .int .i64 k ∧ (x ≠ 0 → k ≤ r)) (fun i => 256 - (intOf i).toNat)
  case atStart => exact ⟨1, by omega, by omega, rfl, fun h => (HX.out h).2.2⟩
  case round =>
    obtain ⟨k, hk1, hk, rfl, hkr⟩ := hrel
    have HK := hid hkr
    clear hkr
    by_cases hlt : k < 256
    · have hbo := bool_one (Gf.tm x k)
      by_cases h1 : Gf.tm x k = 1
      · rw [decide_eq_true h1] at hbo
        have x0 : x ≠ 0 := by rintro rfl; rw [Gf.tm_zero_left] at h1; omega
        have hkv : k = r := by
          have := HR.out; rw [if_neg x0] at this; rw [this]; exact over_spec x hx k hlt h1
        have HV := hid hkv
        clear hkv h1
        go_wp2_with (go_at_call 85; refine (Times_any x k hx hlt _).mono ?_; rintro e w' ⟨rfl, rfl⟩)
        go_ret
        exact ⟨ret_int (by rw [HV.out]), rfl⟩
      · rw [decide_eq_false h1] at hbo
        have hnext : x ≠ 0 → k + 1 ≤ r := fun x0 => by
          have h2 := HK.out x0
          have h3 := (HX.out x0).1
          by_cases e : k = r
          · rw [e] at h1; exact absurd h3 h1
          · omega
        have HN := hid hnext
        clear hnext h1
        go_wp2_with (go_at_call 85; refine (Times_any x k hx hlt _).mono ?_; rintro e w' ⟨rfl, rfl⟩)
        exact ⟨⟨k + 1, by omega, by omega, by go_num, HN.out⟩, by simp [intOf]; omega⟩
    · have x0 : x = 0 := by
        by_cases e : x = 0
        · exact e
        · have h1 := HK.out e; have h2 := (HX.out e).2.1; omega
      have hr0 : r = 0 := by have := HR.out; rwa [if_pos x0] at this
      have H0 := hid hr0
      clear hr0 x0
      go_wp2
      go_ret
      exact ⟨ret_int (by rw [H0.out]; rfl), rfl⟩
end Go.Proofs.YtahnihihfheegaaDoor

namespace Go.Proofs.YtahnihihfheegaaDoor
open Go.RowKit

theorem cell_of_new (w : World) (x : Value) (t : TypeId) : ∀ (j : Nat) (u : Value), [x][j]? = some u → (w.alloc (.cells #[x] t)).cell? ((⟨w.heap.size, 0, none⟩ : Addr).add j) = some u := by
  intro j u h
  cases j with
  | zero =>
    simp at h
    subst h
    show (w.alloc (.cells #[x] t)).cell? ⟨w.heap.size, 0, none⟩ = some x
    simp
  | succ j => simp at h
theorem u8s_snoc (l : List Nat) (n : Nat) : u8s l ++ [.int .u8 (n : Int)] = u8s (l ++ [n]) := by simp [u8s]

/-- the factors of the reference's product below -/
def bnTo (l : List Nat) (x i : Nat) : Nat → Nat
  | 0 => x ^^^ l.getD i 0
  | j + 1 => if j ≠ i then Gf.tm (bnTo l x i j) (l.getD i 0 ^^^ l.getD j 0) else bnTo l x i j
theorem bnTo_lt (l : List Nat) (hl : ∀ i, l.getD i 0 < 256) (x : Nat) (hx : x < 256) (i : Nat) : ∀ j, bnTo l x i j < 256
  | 0 => Gf.xor_lt hx (hl i)
  | j + 1 => by
    unfold bnTo
    split
    · exact Gf.tm_lt _ _ (bnTo_lt l hl x hx i j)
    · exact bnTo_lt l hl x hx i j
theorem bnTo_eq (l : List Nat) (hl : ∀ i, l.getD i 0 < 256) (x : Nat) (hx : x < 256) (i : Nat) : ∀ j, bnTo l x i j = Gf.tm (x ^^^ l.getD i 0) (pnTo l i j)
  | 0 => (Gf.tm_one_right _ (Gf.xor_lt hx (hl i))).symm
  | j + 1 => by
    unfold bnTo pnTo
    by_cases h : j = i
    · rw [if_neg (by simp [h]), if_neg (by simp [h]), bnTo_eq l hl x hx i j]
    · rw [if_pos h, if_pos (fun e => h e.symm), bnTo_eq l hl x hx i j, Gf.tm_assoc _ _ _ (Gf.xor_lt hx (hl i)) (pnTo_lt l hl i j) (Gf.xor_lt (hl i) (hl j))]
theorem iv_tm (a b : Nat) (ha : a < 256) (hb : b < 256) (a0 : a ≠ 0) (b0 : b ≠ 0) : Gf.iv (Gf.tm a b) = Gf.tm (Gf.iv a) (Gf.iv b) := by
  refine (Gf.iv_unique _ _ (Gf.tm_lt _ _ ha) (Gf.tm_lt _ _ (Gf.iv_lt a)) ?_).symm
  have h1 := Gf.iv_lt a
  have h2 := Gf.iv_lt b
  rw [Gf.tm_assoc a b _ ha hb (Gf.tm_lt _ _ h1), Gf.tm_comm b _ hb (Gf.tm_lt _ _ h1), Gf.tm_assoc _ _ b h1 h2 hb, Gf.tm_comm (Gf.iv b) b h2 hb, Gf.tm_iv b hb b0, Gf.tm_one_right _ h1, Gf.tm_iv a ha a0]
/-- the reference's weight -/
theorem rwt_eq (l : List Nat) (hl : ∀ i, l.getD i 0 < 256) (hd : l.Nodup) (x : Nat) (hx : x < 256) (i : Nat) (hi : i < l.length) (hxi : x ≠ l.getD i 0) : Gf.tm (pxTo l x l.length) (Gf.iv (bnTo l x i l.length)) = wt l (scales l) x i := by
  have h1 := Gf.xor_lt hx (hl i)
  have h2 := pnTo_lt l hl i l.length
  have h3 := pnTo_pos l hl hd i hi l.length (Nat.le_refl _)
  have h4 := xor_ne hxi
  unfold wt
  rw [bnTo_eq l hl x hx, iv_tm _ _ h1 h2 h4 h3, scales_getD l i hi]
  unfold scale
  rw [Gf.tm_assoc _ _ _ (pxTo_lt l x _) (Gf.iv_lt _) (Gf.iv_lt _)]

theorem Over_nz (x : Nat) (hx : x < 256) (h0 : x ≠ 0) (w : World) :
    Calls Tryd.prog 86 #[.int .u8 x] w fun e w' => e = .returned (.int .u8 (Gf.iv x)) ∧ w = w' := by
  have h := Over_any x hx w
  rwa [if_neg h0] at h

set_option maxRecDepth 100000 in
set_option maxHeartbeats 4000000 in
theorem rweights_any (a : Option Addr) (n c : Nat) (l : List Nat) (x : Nat) (hx : x < 256) (w : World) (hl : Bs w (.slice a n c) l) (hn : n ≤ 256) (hd : l.Nodup) :
    Calls Tryd.prog 74 #[.slice a n c, .int .u8 x] w fun e w' => ∃ ob, w.heap.size ≤ ob ∧ e = .returned (.slice (some ⟨ob, 0, none⟩) n n) ∧ Own w' ob (wts l (scales l) x) ∧ Below w.heap.size w w' := by
  have HNL := hid hl.len
  have HLT := hid hl.lt
  have HD := hid hd
  clear hd
  have hmk := mk_u8 n (by omega)
  have ho := own_zrow w n
  have hb : Below w.heap.size w (w.alloc (zrow n)) := (Below.refl _ _).alloc (Nat.le_refl _) _
  have hl1 := hl.below hb
  go_enter Tryd.func74, Tryd.ntmps74
  go_wp2
  clear hmk
  go_loop [6] (fun iv => ∃ i : Nat, i ≤ n ∧ iv = .int .i64 i ∧ Hid (∀ j, j < i → l.getD j 0 ≠ x)) (fun iv => n - (intOf iv).toNat)
  case atStart => exact ⟨0, by omega, rfl, fun j hj => absurd hj (Nat.not_lt_zero _)⟩
  case round =>
    obtain ⟨i, hi, rfl, HNE⟩ := hrel
    by_cases hlt : i < n
    · rcases hl1.addr with ⟨h0, _⟩ | ⟨h0, b, o, c', hv⟩
      · exfalso; have := HNL.out; rw [h0] at this; simp at this; omega
      · simp only [Value.slice.injEq] at hv
        obtain ⟨rfl, hnn, hcc⟩ := hv
        clear hnn hcc h0
        have hc := hl1.cell i (by rw [← HNL.out]; exact hlt)
        have hcl := HLT.out i
        by_cases hix : l.getD i 0 = x
        · have hwt : wts l (scales l) x = (List.replicate n 0).set i 1 := by
            have hil : i < l.length := by rw [← HNL.out]; exact hlt
            have hm : x ∈ l := by
              rw [← hix, List.getD_eq_getElem?_getD, List.getElem?_eq_getElem hil]; exact List.getElem_mem _
            have hidx : l.idxOf x = i := by
              have h1 := List.idxOf_lt_length_of_mem hm
              have h2 : l.getD (l.idxOf x) 0 = x := by
                rw [List.getD_eq_getElem?_getD, List.getElem?_eq_getElem h1]; exact List.getElem_idxOf h1
              by_cases e : l.idxOf x = i
              · exact e
              · exact absurd (h2.trans hix.symm) (nodup_getD HD.out h1 hil e)
            unfold wts
            rw [if_pos hm, hidx, ← HNL.out]
          have t1 : (((l.getD i 0 : Nat) : Int) == (x : Int)) = true := by rw [hix]; simp
          have HW := hid hwt
          clear hwt hix
          generalize l.getD i 0 = p at *
          have co := ho.cell i (by simpa using hlt)
          have fo := ho.free i
          go_wp2
          go_ret
          exact ⟨w.heap.size, Nat.le_refl _, rfl, by rw [HW.out]; exact ho.set i 1, hb.setCell (Nat.le_refl _) _⟩
        · have t1 : (((l.getD i 0 : Nat) : Int) == (x : Int)) = false := by rw [beq_eq_false_iff_ne]; exact fun h => hix (by omega)
          have hne2 : ∀ j, j < i + 1 → l.getD j 0 ≠ x := fun j hj => by
            by_cases e : j = i
            · rw [e]; exact hix
            · exact HNE.out j (by omega)
          have HNE2 := hid hne2
          clear hne2 hix
          generalize l.getD i 0 = p at *
          go_wp2
          exact ⟨⟨i + 1, by omega, by go_num, HNE2⟩, by simp [intOf]; omega⟩
    · obtain rfl : i = n := by omega
      have hwt : wts l (scales l) x = upTo i (wt l (scales l) x) i := by
        have hm : ¬ x ∈ l := fun hm => by
          have h1 := List.idxOf_lt_length_of_mem hm
          have h2 : l.getD (l.idxOf x) 0 = x := by
            rw [List.getD_eq_getElem?_getD, List.getElem?_eq_getElem h1]; exact List.getElem_idxOf h1
          exact HNE.out _ (by rw [HNL.out]; exact h1) h2
        unfold wts
        rw [if_neg hm, upTo_all, HNL.out]
      have HW := hid hwt
      rw [← upTo_zero i (wt l (scales l) x)] at ho
      clear hwt
      go_wp2
      go_loop [7, 8] (fun p iv => ∃ m : Nat, m ≤ i ∧ iv = .int .i64 m ∧ p = .int .u8 (pxTo l x m)) (fun _ iv => i - (intOf iv).toNat)
      case atStart => exact ⟨0, by omega, rfl, rfl⟩
      case round =>
        obtain ⟨m, hm, rfl, rfl⟩ := hrel
        by_cases hlt : m < i
        · rcases hl1.addr with ⟨h0, _⟩ | ⟨h0, b, o, c', hv⟩
          · exfalso; have := HNL.out; rw [h0] at this; simp at this; omega
          · simp only [Value.slice.injEq] at hv
            obtain ⟨rfl, hnn, hcc⟩ := hv
            clear hnn hcc h0
            have hc := hl1.cell m (by rw [← HNL.out]; exact hlt)
            have hcl := HLT.out m
            have hpl := pxTo_lt l x m
            have hst : pxTo l x (m + 1) = Gf.tm (pxTo l x m) (x ^^^ l.getD m 0) := rfl
            have HS := hid hst
            clear hst
            generalize l.getD m 0 = pm at *
            have hxi := u8_xor_nat x pm hx hcl
            have hxl := Gf.xor_lt hx hcl
            generalize x ^^^ pm = xx at *
            generalize pxTo l x m = pp at *
            go_wp2_with (go_at_call 85; refine (Times_any pp xx hpl hxl _).mono ?_; rintro e w' ⟨rfl, rfl⟩)
            exact ⟨⟨m + 1, by omega, by go_num, by rw [HS.out]⟩, by simp [intOf]; omega⟩
        · obtain rfl : m = i := by omega
          have hpx := pxTo_lt l x m
          have hpe : ∀ j, j < m → Gf.tm (pxTo l x m) (Gf.iv (bnTo l x j m)) = wt l (scales l) x j := fun j hj => by
            have h5 := rwt_eq l HLT.out HD.out x hx j (by rw [← HNL.out]; exact hj) (fun e => HNE.out j hj e.symm)
            rwa [← HNL.out] at h5
          have HPE := hid hpe
          clear hpe
          generalize pxTo l x m = pp at *
          go_wp2
          go_loopw [9, 10, 11] (fun iv _ _ wr => ∃ j : Nat, j ≤ m ∧ iv = .int .i64 j ∧ Own wr w.heap.size (upTo m (wt l (scales l) x) j) ∧ Below w.heap.size w wr) (fun iv _ _ _ => m - (intOf iv).toNat)
          case atStart => exact ⟨0, by omega, rfl, ho, hb⟩
          case round =>
            clear ho hb hl1
            obtain ⟨j, hj, rfl, ho, hb⟩ := hrel
            obtain ⟨wo, rfl⟩ : ∃ wo : World, wo = wr := ⟨_, rfl⟩
            by_cases hlt2 : j < m
            · have hl2 := hl.below hb
              rcases hl2.addr with ⟨h0, _⟩ | ⟨h0, b, o, c', hv⟩
              · exfalso; have := HNL.out; rw [h0] at this; simp at this; omega
              · simp only [Value.slice.injEq] at hv
                obtain ⟨rfl, hnn, hcc⟩ := hv
                clear hnn hcc h0
                have hc := hl2.cell j (by rw [← HNL.out]; exact hlt2)
                have hcl := HLT.out j
                have hxi := u8_xor_nat x (l.getD j 0) hx hcl
                have hbn0 : bnTo l x j 0 = x ^^^ l.getD j 0 := rfl
                rw [← hbn0] at hxi
                have hbl := bnTo_lt l HLT.out x hx j
                have HBL := hid hbl
                clear hbl hbn0
                generalize hpj : l.getD j 0 = pj at *
                have HPJ := hid hpj
                clear hpj
                go_wp2
                go_loopw [10, 11] (fun p iv wr => ∃ q : Nat, q ≤ m ∧ iv = .int .i64 q ∧ p = .int .u8 (bnTo l x j q) ∧ ∃ dr, Hid (wr = wo.drewN dr)) (fun _ iv _ => m - (intOf iv).toNat)
                case atStart => exact ⟨0, by omega, rfl, rfl, 0, rfl⟩
                case round =>
                  obtain ⟨q, hq, rfl, rfl, dr, hw⟩ := hrel
                  have hw' := hw.out
                  by_cases hlt3 : q < m
                  · by_cases hqj : q = j
                    · have hb1 : ((q : Int) != (j : Int)) = false := by simp [hqj]
                      have hst : bnTo l x j (q + 1) = bnTo l x j q := by
                        show (if q ≠ j then _ else _) = _
                        rw [if_neg (by simp [hqj])]
                      have HST := hid hst
                      clear hst hqj hw'
                      go_wp2
                      go_roundw
                      case rel => exact ⟨q + 1, by omega, by go_num, by rw [HST.out], dr, hw⟩
                      case measure => simp [intOf]; omega
                    · have hb1 : ((q : Int) != (j : Int)) = true := by simp; omega
                      have hst : bnTo l x j (q + 1) = Gf.tm (bnTo l x j q) (pj ^^^ l.getD q 0) := by
                        show (if q ≠ j then _ else _) = _
                        rw [if_pos hqj, HPJ.out]
                      have HST := hid hst
                      have hl3 : Bs wr (.slice (some ⟨b, o, none⟩) m c) l := by rw [hw']; exact hl2.drewN dr
                      have hcj : wr.cell? ⟨b, o + j, none⟩ = some (.int .u8 (pj : Int)) := by rw [hw']; exact hc
                      have hcq := hl3.cell q (by rw [← HNL.out]; exact hlt3)
                      have hql := HLT.out q
                      have hbq := HBL.out q
                      clear hst hqj hw'
                      generalize l.getD q 0 = pq at *
                      have hxi2 := u8_xor_nat pj pq hcl hql
                      have hxl2 := Gf.xor_lt hcl hql
                      generalize bnTo l x j q = bb at *
                      go_wp2
                      go_quiet ((go_at_call 85; exact Calls.quiet_of_same ((Times_any bb _ hbq hxl2 _).mono fun e w' h => ⟨h.1, h.2.symm⟩)))
                      go_wp2
                      go_roundw
                      case rel => exact ⟨q + 1, by omega, by go_num, by rw [HST.out], dr + nq, by rw [hw.out, World.drewN_drewN]; exact hid rfl⟩
                      case measure => simp [intOf]; omega
                  · obtain rfl : q = m := by omega
                    have hbq := HBL.out q
                    have hb0 : bnTo l x j q ≠ 0 := by
                      rw [bnTo_eq l HLT.out x hx]
                      exact Gf.tm_pos _ _ (Gf.xor_lt hx (HLT.out j)) (pnTo_lt l HLT.out j q) (xor_ne (fun e => HNE.out j hlt2 e.symm)) (pnTo_pos l HLT.out HD.out j (by rw [← HNL.out]; exact hlt2) q (by rw [HNL.out]; exact Nat.le_refl _))
                    have hwj := HPE.out j hlt2
                    have HWJ := hid hwj
                    have HB0 := hid hb0
                    clear hwj hb0
                    have ho' : Own wr w.heap.size (upTo q (wt l (scales l) x) j) := by rw [hw']; exact ho.drewN dr
                    have hbr : Below w.heap.size w wr := by rw [hw']; exact bel_drewN hb dr
                    have co := ho'.cell j (by rw [upTo_length]; exact hlt2)
                    have fo := ho'.free j
                    have hil := Gf.iv_lt (bnTo l x j q)
                    generalize bnTo l x j q = bb at *
                    clear hw'
                    go_wp2_with fail
                    refine (Over_nz bb hbq HB0.out _).mono ?_
                    rintro e w' ⟨rfl, rfl⟩
                    go_wp2_with fail
                    refine (Times_any pp (Gf.iv bb) hpx hil _).mono ?_
                    rintro e w' ⟨rfl, rfl⟩
                    go_wp2
                    refine ⟨⟨j + 1, by omega, by go_num, ?_, hbr.setCell (Nat.le_refl _) _⟩, by simp [intOf]; omega⟩
                    rw [← upTo_set, ← HWJ.out]
                    exact ho'.set j _
            · obtain rfl : j = m := by omega
              go_wp2
              go_ret
              exact ⟨w.heap.size, Nat.le_refl _, rfl, by rw [HW.out]; exact ho, hb⟩
end Go.Proofs.YtahnihihfheegaaDoor

namespace Go.Proofs.YtahnihihfheegaaDoor
open Go.RowKit

set_option maxRecDepth 100000 in
set_option maxHeartbeats 4000000 in
theorem rmix_any (b o c wb wo wc k L : Nat) (ps : List (Int × Sl)) (ws : List Nat) (D : List (List Nat)) (w : World) (hp : Ps w (.slice (some ⟨b, o, none⟩) k c) ps) (hk : k ≤ 256) (hkp : k = ps.length)
    (hD : ∀ i, (h : i < ps.length) → Bs w (.slice ps[i].2.1 ps[i].2.2.1 ps[i].2.2.2) (D.getD i []) ∧ (D.getD i []).length = L)
    (hw : Bs w (.slice (some ⟨wb, wo, none⟩) k wc) ws) (hL : L ≤ 1000000) :
    Calls Tryd.prog 73 #[.slice (some ⟨b, o, none⟩) k c, .slice (some ⟨wb, wo, none⟩) k wc, .int .i64 L] w fun e w' => ∃ ob, w.heap.size ≤ ob ∧ e = .returned (.slice (some ⟨ob, 0, none⟩) L L) ∧ Own w' ob (mixL D ws L k) ∧ Below w.heap.size w w' := by
  have HD := hid hD
  have HP := hid hp
  have HKP := hid hkp
  have HWN := hid hw.len
  have HWL := hid hw.lt
  have HW := hid hw
  clear hD hp hkp hw
  have hmk := mk_u8 L (by omega)
  have ho := own_zrow w L
  rw [← mixL_zero D ws L] at ho
  have hb : Below w.heap.size w (w.alloc (zrow L)) := (Below.refl _ _).alloc (Nat.le_refl _) _
  go_enter Tryd.func73, Tryd.ntmps73
  go_wp2
  clear hmk
  go_loopw [8, 9] (fun iv _ wr => ∃ i : Nat, i ≤ k ∧ iv = .int .i64 i ∧ Own wr w.heap.size (mixL D ws L i) ∧ Below w.heap.size w wr) (fun iv _ _ => k - (intOf iv).toNat)
  case atStart => exact ⟨0, by omega, rfl, ho, hb⟩
  case round =>
    clear ho hb
    obtain ⟨i, hi, rfl, ho, hb⟩ := hrel
    obtain ⟨wo', rfl⟩ : ∃ wo' : World, wo' = wr := ⟨_, rfl⟩
    by_cases hlt : i < k
    · have hwb := HW.out.below hb
      have cw := hwb.cell i (by rw [← HWN.out]; exact hlt)
      have hwl := HWL.out i
      generalize hwi : ws.getD i 0 = wi at *
      by_cases hw0 : wi = 0
      · have hb1 : ((wi : Int) == 0) = true := by simp [hw0]
        have hst := mixL_skip D ws L i (by rw [hwi, hw0])
        have HST := hid hst
        clear hst hw0 hwi
        go_wp2
        refine ⟨⟨i + 1, by omega, by go_num, ?_, hb⟩, by simp [intOf]; omega⟩
        rw [HST.out]; exact ho
      · have hb1 : ((wi : Int) == 0) = false := by simp; omega
        have hst := mixL_step D ws L i
        rw [hwi] at hst
        have HST := hid hst
        have HWI := hid hwi
        clear hst hw0 hwi
        have hall : ∀ W, Below w.heap.size w W → W.cell? ⟨b, o + i * 2 + 1, none⟩ = some (.slice (ps[i]'(by rw [← HKP.out]; exact hlt)).2.1 (ps[i]'(by rw [← HKP.out]; exact hlt)).2.2.1 (ps[i]'(by rw [← HKP.out]; exact hlt)).2.2.2) ∧ Bs W (.slice (ps[i]'(by rw [← HKP.out]; exact hlt)).2.1 (ps[i]'(by rw [← HKP.out]; exact hlt)).2.2.1 (ps[i]'(by rw [← HKP.out]; exact hlt)).2.2.2) (D.getD i []) := fun W hW => ⟨((Ps.below HP.out hW).cells i (by rw [← HKP.out]; exact hlt)).2, (HD.out i (by rw [← HKP.out]; exact hlt)).1.below hW⟩
        have hcp := ((Ps.below HP.out hb).cells i (by rw [← HKP.out]; exact hlt)).2
        have hdi := HD.out i (by rw [← HKP.out]; exact hlt)
        have hbd := hdi.1.below hb
        have hlen := hdi.2
        have hbl := hdi.1.len
        have hdlow : 0 < L → Off w.heap.size (.slice (ps[i]'(by rw [← HKP.out]; exact hlt)).2.1 (ps[i]'(by rw [← HKP.out]; exact hlt)).2.2.1 (ps[i]'(by rw [← HKP.out]; exact hlt)).2.2.2) := fun h => hdi.1.off_ge (by intro e; rw [e] at hlen; simp at hlen; omega) (Nat.le_refl _)
        generalize ps[i].2.1 = da at *
        generalize ps[i].2.2.1 = dn at *
        generalize ps[i].2.2.2 = dc at *
        rw [hlen] at hbl
        subst hbl
        have HLEN := hid hlen
        have HBD := hid hbd
        have HDL := hid hbd.lt
        have HALL := hid hall
        clear hdi hbd hdlow hlen hall hcp
        go_wp2
        go_loopw [9] (fun cv wr => ∃ q : Nat, q ≤ dn ∧ cv = .int .i64 q ∧ Own wr w.heap.size (axTo (mixL D ws dn i) 0 (D.getD i []) wi q) ∧ Below w.heap.size wo' wr) (fun cv _ => dn - (intOf cv).toNat)
        case atStart => exact ⟨0, by omega, rfl, ho, Below.refl _ _⟩
        case round =>
          obtain ⟨q, hq, rfl, ho2, hb2⟩ := hrel
          by_cases hlt2 : q < dn
          · have hbr := hb.trans hb2
            have cw2 := (HW.out.below hbr).cell i (by rw [← HWN.out]; exact hlt)
            rw [HWI.out] at cw2
            obtain ⟨cp2, hbd2⟩ := HALL.out wr hbr
            rcases hbd2.addr with ⟨h0, _⟩ | ⟨h0, db, do', c', hv⟩
            · exfalso; have := HLEN.out; rw [h0] at this; simp at this; omega
            · simp only [Value.slice.injEq] at hv
              obtain ⟨rfl, hnn, hcc⟩ := hv
              clear hnn hcc h0
              have cd := hbd2.cell q (by rw [HLEN.out]; exact hlt2)
              have hdl := HDL.out q
              have co := ho2.cell q (by rw [axTo_length, mixL_length]; exact hlt2)
              have fo := ho2.free q
              have hzl : (axTo (mixL D ws dn i) 0 (D.getD i []) wi q).getD q 0 < 256 := by
                rw [axTo_getD _ _ _ _ _ (by rw [mixL_length]; omega)]
                have h6 := getD_lt (mixL_lt D ws dn i HWL.out) q
                split
                · exact Gf.xor_lt h6 (Gf.tm_lt _ _ hwl)
                · exact h6
              have hst : axTo (mixL D ws dn i) 0 (D.getD i []) wi (q + 1) = (axTo (mixL D ws dn i) 0 (D.getD i []) wi q).set (0 + q) ((axTo (mixL D ws dn i) 0 (D.getD i []) wi q).getD (0 + q) 0 ^^^ Gf.tm wi ((D.getD i []).getD q 0)) := rfl
              rw [Nat.zero_add] at hst
              have HS2 := hid hst
              clear hst
              generalize hz : (axTo (mixL D ws dn i) 0 (D.getD i []) wi q).getD q 0 = z at *
              have HZ := hid hz
              clear hz
              generalize (D.getD i []).getD q 0 = y at *
              have hxo := u8_xor_nat z (Gf.tm wi y) hzl (Gf.tm_lt _ _ hwl)
              go_wp2
              refine region_quiet_tail 19 (by kernel_rfl) (by kernel_rfl) ?_
              simp only [List.take_succ_cons, List.take_zero, List.drop_succ_cons, List.drop_zero]
              repeat (quiet_step ((go_at_call 85; exact Calls.quiet_of_same ((Times_any wi y hwl hdl _).mono fun e w' h => ⟨h.1, h.2.symm⟩))))
              refine wpQuiet_nil ?_
              intro nq
              go_wp2
              refine ⟨⟨q + 1, by omega, by go_num, ?_, ?_⟩, by simp [intOf]; omega⟩
              · rw [HS2.out]
                exact (ho2.drewN nq).set q _
              · exact (bel_drewN hb2 nq).setCell (Nat.le_refl _) _
          · obtain rfl : q = dn := by omega
            rw [HST.out] at ho2
            go_wp2
            exact ⟨⟨i + 1, by omega, by go_num, ho2, hb.trans hb2⟩, by simp [intOf]; omega⟩
    · obtain rfl : i = k := by omega
      go_wp2
      go_ret
      exact ⟨w.heap.size, Nat.le_refl _, rfl, ho, hb⟩
end Go.Proofs.YtahnihihfheegaaDoor

namespace Go.Proofs.YtahnihihfheegaaDoor
open Go.RowKit

theorem length_ok (k n : Nat) (h1 : 1 ≤ k) (h2 : k ≤ 255) (h3 : n ≤ 8192) (w : World) :
    Calls Tryd.prog 57 #[.int .i64 k, .int .i64 n] w fun e w' => e = .returned (.tuple #[.int .i64 (plen k n), .int .i64 0]) ∧ w = w' := by
  have b1 : decide ((k : Int) < 1) = false := by simp; omega
  have b2 : decide ((255 : Int) < (k : Int)) = false := by simp; omega
  have b3 : decide ((n : Int) < 0) = false := by simp
  have b4 : decide ((8192 : Int) < (n : Int)) = false := by simp; omega
  have hle := plen_le k n h1
  go_enter Tryd.func57, Tryd.ntmps57
  go_wp2
  go_loop [6] (fun l => ∃ m : Nat, m ≤ plen k n ∧ l = .int .i64 m) (fun l => plen k n - (intOf l).toNat)
  case atStart => exact ⟨0, by omega, rfl⟩
  case round =>
    obtain ⟨m, hm, rfl⟩ := hrel
    have hkm : k * m ≤ 255 * 8192 := Nat.mul_le_mul h2 (by omega)
    have hcast : ((k : Int) * (m : Int)) = ((k * m : Nat) : Int) := rfl
    by_cases hlt : m < plen k n
    · have hc := plen_lt k n m h1 hlt
      generalize k * m = q at *
      generalize plen k n = p at *
      have hd : decide ((q : Int) < (n : Int)) = true := by simp; omega
      go_wp2
      exact ⟨⟨m + 1, by omega, by go_num⟩, by simp [intOf]; omega⟩
    · obtain rfl : m = plen k n := by omega
      have hc := plen_ge k n h1
      generalize k * plen k n = q at *
      generalize hp : plen k n = p at *
      have HP := hid hp
      clear hp
      have hd : decide ((q : Int) < (n : Int)) = false := by simp; omega
      go_wp2
      go_ret2
      exact ⟨by rw [HP.out]; rfl, rfl⟩
theorem length_bad (k n : Int) (h : ¬ (1 ≤ k ∧ k ≤ 255 ∧ 0 ≤ n ∧ n ≤ 8192)) (w : World) :
    Calls Tryd.prog 57 #[.int .i64 k, .int .i64 n] w fun e w' => e = .returned (.tuple #[.int .i64 0, .int .i64 2]) ∧ w = w' := by
  by_cases h1 : k < 1
  · go_enter Tryd.func57, Tryd.ntmps57
    go_wp2
    go_ret2
    exact ⟨rfl, rfl⟩
  · by_cases h2 : 255 < k
    · go_enter Tryd.func57, Tryd.ntmps57
      go_wp2
      go_ret2
      exact ⟨rfl, rfl⟩
    · by_cases h3 : n < 0
      · go_enter Tryd.func57, Tryd.ntmps57
        go_wp2
        go_ret2
        exact ⟨rfl, rfl⟩
      · have h4 : 8192 < n := by omega
        go_enter Tryd.func57, Tryd.ntmps57
        go_wp2
        go_ret2
        exact ⟨rfl, rfl⟩
end Go.Proofs.YtahnihihfheegaaDoor
