/-
  checkPieces: the first error of a list of pieces.
-/
import Derived.Test.YtbajekiliplclaaPiece
import Derived.Test.YtbajekiliplclaaSize
import Derived.Deep.DeepCutAuto
namespace Go.Proofs.Ytbajekiliplclaa
open Go Go.RowKit
set_option linter.unusedVariables false

/-- the number occurs earlier -/
def occ (idx : Nat → Int) (i : Nat) (v : Int) : Bool := (List.range i).any fun j => idx j == v
theorem occ_iff (idx : Nat → Int) (i : Nat) (v : Int) : occ idx i v = true ↔ ∃ j, j < i ∧ idx j = v := by
  unfold occ
  rw [List.any_eq_true]
  constructor
  · rintro ⟨j, h1, h2⟩; exact ⟨j, List.mem_range.1 h1, by simpa using h2⟩
  · rintro ⟨j, h1, h2⟩; exact ⟨j, List.mem_range.2 h1, by simpa using h2⟩
theorem occ_succ (idx : Nat → Int) (i : Nat) (v : Int) : occ idx (i + 1) v = (occ idx i v || idx i == v) := by
  unfold occ
  rw [List.range_succ, List.any_append]
  simp
/-- the error of piece i -/
def stepE (t : Int) (idx ce : Nat → Int) (i : Nat) : Int := if idx i < 0 ∨ t ≤ idx i then 2 else if occ idx i (idx i) = true then 7 else ce i
/-- the first error of the first pieces, or 0 -/
def chkTo (t : Int) (idx ce : Nat → Int) : Nat → Int
  | 0 => 0
  | i + 1 => if chkTo t idx ce i = 0 then stepE t idx ce i else chkTo t idx ce i
/-- the error of n pieces of which k are needed -/
def chkAll (k t : Int) (idx ce : Nat → Int) (n : Nat) : Int := if chkTo t idx ce n = 0 then (if (n : Int) < k then 12 else 0) else chkTo t idx ce n
theorem chkTo_stop {t : Int} {idx ce : Nat → Int} {i : Nat} (h : chkTo t idx ce i = 0) (h2 : stepE t idx ce i ≠ 0) : ∀ n, i < n → chkTo t idx ce n = stepE t idx ce i
  | 0, hn => absurd hn (Nat.not_lt_zero i)
  | n + 1, hn => by
    unfold chkTo
    by_cases e : i = n
    · subst e; rw [if_pos h]
    · rw [chkTo_stop h h2 n (by omega), if_neg h2]
theorem chkAll_stop {k t : Int} {idx ce : Nat → Int} {i n : Nat} (h : chkTo t idx ce i = 0) (h2 : stepE t idx ce i ≠ 0) (hn : i < n) : chkAll k t idx ce n = stepE t idx ce i := by
  unfold chkAll
  rw [chkTo_stop h h2 n hn, if_neg h2]
theorem chkTo_next {t : Int} {idx ce : Nat → Int} {i : Nat} (h : chkTo t idx ce i = 0) (h2 : stepE t idx ce i = 0) : chkTo t idx ce (i + 1) = 0 := by
  unfold chkTo
  rw [if_pos h, h2]
/-- the flags -/
def flags (idx : Nat → Int) (i : Nat) : Array Value := ((List.range 255).map fun v => Value.bool (occ idx i (v : Nat))).toArray
theorem flags_zero (idx : Nat → Int) : flags idx 0 = Array.replicate 255 (.bool false) := by
  apply Array.ext'
  rw [Array.toList_replicate, List.eq_replicate_iff]
  refine ⟨?_, fun b hb => ?_⟩
  · show ((List.range 255).map _).length = 255
    rw [List.length_map, List.length_range]
  · obtain ⟨x, _, rfl⟩ := List.mem_map.1 hb
    rfl
theorem flags_get (idx : Nat → Int) (i v : Nat) (hv : v < 255) : (flags idx i)[v]? = some (.bool (occ idx i v)) := by
  unfold flags
  simp [List.getElem?_range hv]
theorem flags_set (idx : Nat → Int) (i v : Nat) (hv : v < 255) (h : idx i = v) : (flags idx i).setIfInBounds v (.bool true) = flags idx (i + 1) := by
  apply Array.ext'
  unfold flags
  rw [Array.toList_setIfInBounds]
  apply List.ext_getElem?
  intro j
  rw [List.getElem?_set]
  by_cases e : v = j
  · subst e
    simp [hv, occ_succ, h]
  · rw [if_neg e]
    by_cases hj : j < 255
    · simp [hj, occ_succ, h]
      intro e2; omega
    · rw [List.getElem?_eq_none (by simp; omega), List.getElem?_eq_none (by simp; omega)]

theorem lenIs_any (a : Option Addr) (n c lb : Nat) (L : Int) (w : World) (hL : w.cell? ⟨lb, 0, none⟩ = some (.int .i64 L)) :
    Calls Try.prog 83 #[.slice a n c, .pointer (some ⟨lb, 0, none⟩)] w fun e w' => e = .returned (.int .i64 (if (n : Int) = L then 0 else 10)) ∧ w = w' := by
  by_cases h : (n : Int) = L
  · have b1 : ((n : Int) != L) = false := by simp [h]
    have H := hid h
    clear h
    go_enter Try.func83, Try.ntmps83
    go_wp2
    go_ret
    exact ⟨rfl, rfl⟩
  · have b1 : ((n : Int) != L) = true := by simp [h]
    have H := hid h
    clear h
    go_enter Try.func83, Try.ntmps83
    go_wp2
    go_ret
    exact ⟨rfl, rfl⟩

/-- what a list of pieces gives: the numbers -/
def pidx (ps : List (Int × Sl)) (i : Nat) : Int := (ps.getD i (0, none, 0, 0)).1
def plen' (ps : List (Int × Sl)) (i : Nat) : Nat := (ps.getD i (0, none, 0, 0)).2.2.1
theorem pidx_at (ps : List (Int × Sl)) (i : Nat) (h : i < ps.length) : ps[i].1 = pidx ps i := by
  unfold pidx
  rw [List.getD_eq_getElem?_getD, List.getElem?_eq_getElem h]; rfl
theorem plen_at (ps : List (Int × Sl)) (i : Nat) (h : i < ps.length) : ps[i].2.2.1 = plen' ps i := by
  unfold plen'
  rw [List.getD_eq_getElem?_getD, List.getElem?_eq_getElem h]; rfl

theorem zero_flags (idx : Nat → Int) : Try.zeroCells128 = flags idx 0 := by
  rw [flags_zero]
  kernel_rfl
/-- what the loop keeps -/
structure ChkI (k t : Int) (idx ce : Nat → Int) (w wr : World) (i : Nat) : Prop where
  seen : wr.heap[w.heap.size]? = some (.cells (flags idx i) 128 (0, 0))
  below : Below w.heap.size w wr
  clean : chkTo t idx ce i = 0
theorem bel_sa {w wr : World} (h : Below w.heap.size w wr) (v : Nat) (u : Value) (o : Obj) : Below w.heap.size w ((wr.setCell ⟨w.heap.size, v, none⟩ u).alloc o) :=
  (h.setCell (p := ⟨w.heap.size, v, none⟩) (Nat.le_refl _) u).alloc (by simp; exact h.size) o
theorem ChkI.next {k t : Int} {idx ce : Nat → Int} {w wr : World} {i v : Nat} (h : ChkI k t idx ce w wr i) (o : Obj) (hv : idx i = v) (hv2 : v < 255) (ht : idx i < t) (hocc : occ idx i v = false) (hce : ce i = 0) : ChkI k t idx ce w ((wr.setCell ⟨w.heap.size, v, none⟩ (.bool true)).alloc o) (i + 1) := by
  refine ⟨heap_alloc ?_ o, bel_sa h.below v _ o, chkTo_next h.clean ?_⟩
  · have h5 := heap_set h.seen v (.bool true)
    rwa [flags_set idx i v hv2 hv] at h5
  · unfold stepE
    rw [if_neg (by omega), hv, if_neg (by rw [hocc]; decide), hce]

set_option maxRecDepth 100000 in
set_option maxHeartbeats 2000000 in
theorem chkD_any (k t : Int) (a : Option Addr) (n c lb : Nat) (L : Int) (ps : List (Int × Sl)) (w : World) (ht : t ≤ 255) (hp : Ps w (.slice a n c) ps) (hL : w.cell? ⟨lb, 0, none⟩ = some (.int .i64 L)) (hlb : lb < w.heap.size) (hn : n ≤ 100000) :
    Calls Try.prog 82 #[.int .i64 k, .int .i64 t, .slice a n c, .func (.func 83) #[] #[.pointer (some ⟨lb, 0, none⟩)]] w fun e w' => e = .returned (.int .i64 (chkAll k t (pidx ps) (fun i => if ((plen' ps i : Nat) : Int) = L then 0 else 10) n)) ∧ Below w.heap.size w w' := by
  have hnp : n = ps.length := by obtain ⟨_, _, h, _⟩ := hp; simp at h; exact h.2.1
  have HN := hid hnp
  have HP := hid hp
  have HL := hid hL
  clear hnp hp hL
  obtain ⟨ce, hce⟩ : ∃ ce : Nat → Int, ce = fun i => if ((plen' ps i : Nat) : Int) = L then 0 else 10 := ⟨_, rfl⟩
  have HCE := hid hce
  rw [← hce]
  clear hce
  have h0 : ChkI k t (pidx ps) ce w (w.alloc (.cells Try.zeroCells128 128)) 0 := ⟨by rw [zero_flags (pidx ps)]; exact heap_new _ _, (Below.refl _ _).alloc (Nat.le_refl _) _, rfl⟩
  have HINV := hid h0
  clear h0
  go_enter Try.func82, Try.ntmps82
  go_wp2
  go_loopw [15] (fun iv wr => ∃ i : Nat, i ≤ n ∧ iv = .int .i64 i ∧ Hid (ChkI k t (pidx ps) ce w wr i)) (fun iv _ => n - (intOf iv).toNat)
  case atStart => exact ⟨0, by omega, rfl, HINV⟩
  case round =>
    clear HINV
    obtain ⟨i, hi, rfl, HINV⟩ := hrel
    by_cases hlt : i < n
    · have HPr := HP.out.below HINV.out.below
      obtain ⟨b, o, rfl⟩ : ∃ b o, a = some ⟨b, o, none⟩ := by
        obtain ⟨a', c', h1, h3⟩ := HPr
        obtain ⟨b, o, ha, _⟩ := h3 (by intro e; rw [e] at HN; have := HN.out; simp at this; omega)
        simp at h1
        exact ⟨b, o, h1.1.trans ha⟩
      have hcs := HPr.cells i (by rw [← HN.out]; exact hlt)
      obtain ⟨q0, q1⟩ := hcs
      rw [pidx_at] at q0
      rw [plen_at] at q1
      have hsz : w.heap.size < wr.heap.size := lt_of_heap HINV.out.seen
      clear HPr
      generalize hda : (ps[i]'_).2.1 = da at *
      generalize hdc : (ps[i]'_).2.2.2 = dc at *
      clear hda hdc
      by_cases hbad : pidx ps i < 0 ∨ t ≤ pidx ps i
      · have hst : chkAll k t (pidx ps) ce n = 2 := by
          have h2 : stepE t (pidx ps) ce i = 2 := by unfold stepE; rw [if_pos hbad]
          rw [chkAll_stop HINV.out.clean (by rw [h2]; decide) hlt, h2]
        have HST := hid hst
        clear hst
        have hbe := HINV.out.below
        generalize pidx ps i = v at *
        by_cases h0 : v < 0
        · clear hbad
          go_wp2
          go_ret
          exact ⟨ret_int HST.out.symm, hbe.alloc hbe.size _⟩
        · have h1 : t ≤ v := by omega
          clear hbad
          go_wp2
          go_ret
          exact ⟨ret_int HST.out.symm, hbe.alloc hbe.size _⟩
      · obtain ⟨v, hv⟩ : ∃ v : Nat, pidx ps i = v := ⟨(pidx ps i).toNat, by omega⟩
        have hvt : (v : Int) < t := by omega
        have hv2 : v < 255 := by omega
        have cv := cell_of_heap HINV.out.seen v
        rw [flags_get _ _ _ hv2] at cv
        have fv := free_of_heap HINV.out.seen v
        have hbe := HINV.out.below
        rw [hv] at q0
        have HV := hid hv
        clear hbad hv
        by_cases hoc : occ (pidx ps) i v = true
        · rw [hoc] at cv
          have hst : chkAll k t (pidx ps) ce n = 7 := by
            have h2 : stepE t (pidx ps) ce i = 7 := by unfold stepE; rw [if_neg (by rw [HV.out]; omega), HV.out, if_pos hoc]
            rw [chkAll_stop HINV.out.clean (by rw [h2]; decide) hlt, h2]
          have HST := hid hst
          clear hst hoc
          go_wp2
          go_ret
          exact ⟨ret_int HST.out.symm, hbe.alloc hbe.size _⟩
        · have hoc : occ (pidx ps) i v = false := by simpa using hoc
          rw [hoc] at cv
          have HOC := hid hoc
          clear hoc
          go_wp2_with fail
          refine (lenIs_any _ _ _ lb L _ ?_).mono ?_
          · exact ((bel_sa hbe v _ _).cell (p := ⟨lb, 0, none⟩) hlb).trans HL.out
          rintro e w5 ⟨rfl, rfl⟩
          by_cases hln : ((plen' ps i : Nat) : Int) = L
          · have NX := hid (HINV.out.next (Obj.cells #[.int .i64 v, .slice da (plen' ps i) dc] 36) HV.out hv2 (by rw [HV.out]; exact hvt) HOC.out (by rw [HCE.out]; exact if_pos hln))
            rw [if_pos hln]
            clear hln cv fv q0 q1
            go_wp2
            exact ⟨⟨i + 1, by omega, by go_num, NX⟩, by simp [intOf]; omega⟩
          · rw [if_neg hln]
            have hst : chkAll k t (pidx ps) ce n = 10 := by
              have h2 : stepE t (pidx ps) ce i = 10 := by unfold stepE; rw [if_neg (by rw [HV.out]; omega), HV.out, if_neg (by rw [HOC.out]; decide), HCE.out]; exact if_neg hln
              rw [chkAll_stop HINV.out.clean (by rw [h2]; decide) hlt, h2]
            have HST := hid hst
            clear hst hln cv fv q0 q1
            go_wp2
            go_ret
            exact ⟨ret_int HST.out.symm, bel_sa hbe v _ _⟩
    · obtain rfl : i = n := by omega
      have hbe := HINV.out.below
      by_cases hk : (i : Int) < k
      · have hst : chkAll k t (pidx ps) ce i = 12 := by unfold chkAll; rw [if_pos HINV.out.clean, if_pos hk]
        have HST := hid hst
        clear hst
        go_wp2
        go_ret
        exact ⟨ret_int HST.out.symm, hbe⟩
      · have hst : chkAll k t (pidx ps) ce i = 0 := by unfold chkAll; rw [if_pos HINV.out.clean, if_neg hk]
        have HST := hid hst
        clear hst
        go_wp2
        go_ret
        exact ⟨ret_int HST.out.symm, hbe⟩
/-- the error of a piece's bytes, by the first one's length -/
def alikeL (L0 n : Nat) : Int := if 8192 < n then 3 else if n = L0 then 0 else 10
def alikeE (ps : List (Int × Sl)) (i : Nat) : Int := alikeL (plen' ps 0) (plen' ps i)
theorem alike_any (a : Option Addr) (n c lb : Nat) (m mc : Nat) (w : World) (b o : Nat) (da : Option Addr) (dc L0 : Nat) (hL : w.cell? ⟨lb, 0, none⟩ = some (.slice (some ⟨b, o, none⟩) m mc)) (hm : 0 < m) (h0 : w.cell? ⟨b, o + 1, none⟩ = some (.slice da L0 dc)) :
    Calls Try.prog 108 #[.slice a n c, .pointer (some ⟨lb, 0, none⟩)] w fun e w' => e = .returned (.int .i64 (alikeL L0 n)) ∧ w = w' := by
  unfold alikeL
  by_cases h1 : 8192 < n
  · have b1 : decide ((8192 : Int) < (n : Int)) = true := by simp; omega
    rw [if_pos h1]
    go_enter Try.func108, Try.ntmps108
    go_wp2
    go_ret
    exact ⟨rfl, rfl⟩
  · have b1 : decide ((8192 : Int) < (n : Int)) = false := by simp; omega
    rw [if_neg h1]
    by_cases h : n = L0
    · have b2 : ((n : Int) != (L0 : Int)) = false := by simp [h]
      rw [if_pos h]
      have H := hid h
      clear h
      go_enter Try.func108, Try.ntmps108
      go_wp2
      go_ret
      exact ⟨rfl, rfl⟩
    · have b2 : ((n : Int) != (L0 : Int)) = true := by simp; omega
      rw [if_neg h]
      have H := hid h
      clear h
      go_enter Try.func108, Try.ntmps108
      go_wp2
      go_ret
      exact ⟨rfl, rfl⟩

set_option maxRecDepth 100000 in
set_option maxHeartbeats 2000000 in
theorem chkA_any (k t : Int) (a : Option Addr) (n c lb : Nat) (ps : List (Int × Sl)) (w : World) (ht : t ≤ 255) (hp : Ps w (.slice a n c) ps) (hL : w.cell? ⟨lb, 0, none⟩ = some (.slice a n c)) (hlb : lb < w.heap.size) (hn : n ≤ 100000) :
    Calls Try.prog 82 #[.int .i64 k, .int .i64 t, .slice a n c, .func (.func 108) #[] #[.pointer (some ⟨lb, 0, none⟩)]] w fun e w' => e = .returned (.int .i64 (chkAll k t (pidx ps) (alikeE ps) n)) ∧ Below w.heap.size w w' := by
  have hnp : n = ps.length := by obtain ⟨_, _, h, _⟩ := hp; simp at h; exact h.2.1
  have HN := hid hnp
  have HP := hid hp
  have HL := hid hL
  clear hnp hp hL
  obtain ⟨ce, hce⟩ : ∃ ce : Nat → Int, ce = alikeE ps := ⟨_, rfl⟩
  have HCE := hid hce
  rw [← hce]
  clear hce
  have h0 : ChkI k t (pidx ps) ce w (w.alloc (.cells Try.zeroCells128 128)) 0 := ⟨by rw [zero_flags (pidx ps)]; exact heap_new _ _, (Below.refl _ _).alloc (Nat.le_refl _) _, rfl⟩
  have HINV := hid h0
  clear h0
  go_enter Try.func82, Try.ntmps82
  go_wp2
  go_loopw [15] (fun iv wr => ∃ i : Nat, i ≤ n ∧ iv = .int .i64 i ∧ Hid (ChkI k t (pidx ps) ce w wr i)) (fun iv _ => n - (intOf iv).toNat)
  case atStart => exact ⟨0, by omega, rfl, HINV⟩
  case round =>
    clear HINV
    obtain ⟨i, hi, rfl, HINV⟩ := hrel
    by_cases hlt : i < n
    · have HPr := HP.out.below HINV.out.below
      obtain ⟨b, o, rfl⟩ : ∃ b o, a = some ⟨b, o, none⟩ := by
        obtain ⟨a', c', h1, h3⟩ := HPr
        obtain ⟨b, o, ha, _⟩ := h3 (by intro e; rw [e] at HN; have := HN.out; simp at this; omega)
        simp at h1
        exact ⟨b, o, h1.1.trans ha⟩
      have hcs := HPr.cells i (by rw [← HN.out]; exact hlt)
      obtain ⟨q0, q1⟩ := hcs
      rw [pidx_at] at q0
      rw [plen_at] at q1
      have hsz : w.heap.size < wr.heap.size := lt_of_heap HINV.out.seen
      clear HPr
      generalize hda : (ps[i]'_).2.1 = da at *
      generalize hdc : (ps[i]'_).2.2.2 = dc at *
      clear hda hdc
      by_cases hbad : pidx ps i < 0 ∨ t ≤ pidx ps i
      · have hst : chkAll k t (pidx ps) ce n = 2 := by
          have h2 : stepE t (pidx ps) ce i = 2 := by unfold stepE; rw [if_pos hbad]
          rw [chkAll_stop HINV.out.clean (by rw [h2]; decide) hlt, h2]
        have HST := hid hst
        clear hst
        have hbe := HINV.out.below
        generalize pidx ps i = v at *
        by_cases h0 : v < 0
        · clear hbad
          go_wp2
          go_ret
          exact ⟨ret_int HST.out.symm, hbe.alloc hbe.size _⟩
        · have h1 : t ≤ v := by omega
          clear hbad
          go_wp2
          go_ret
          exact ⟨ret_int HST.out.symm, hbe.alloc hbe.size _⟩
      · obtain ⟨v, hv⟩ : ∃ v : Nat, pidx ps i = v := ⟨(pidx ps i).toNat, by omega⟩
        have hvt : (v : Int) < t := by omega
        have hv2 : v < 255 := by omega
        have cv := cell_of_heap HINV.out.seen v
        rw [flags_get _ _ _ hv2] at cv
        have fv := free_of_heap HINV.out.seen v
        have hbe := HINV.out.below
        rw [hv] at q0
        have HV := hid hv
        clear hbad hv
        by_cases hoc : occ (pidx ps) i v = true
        · rw [hoc] at cv
          have hst : chkAll k t (pidx ps) ce n = 7 := by
            have h2 : stepE t (pidx ps) ce i = 7 := by unfold stepE; rw [if_neg (by rw [HV.out]; omega), HV.out, if_pos hoc]
            rw [chkAll_stop HINV.out.clean (by rw [h2]; decide) hlt, h2]
          have HST := hid hst
          clear hst hoc
          go_wp2
          go_ret
          exact ⟨ret_int HST.out.symm, hbe.alloc hbe.size _⟩
        · have hoc : occ (pidx ps) i v = false := by simpa using hoc
          rw [hoc] at cv
          have HOC := hid hoc
          clear hoc
          go_wp2_with fail
          have hz := (HP.out.below (bel_sa hbe v (.bool true) (Obj.cells #[.int .i64 v, .slice da (plen' ps i) dc] 36))).cells 0 (by rw [← HN.out]; omega)
          have hz1 := hz.2
          rw [plen_at, Nat.zero_mul, Nat.add_zero] at hz1
          refine (alike_any _ _ _ lb n c _ b o _ _ (plen' ps 0) ?_ (by omega) hz1).mono ?_
          · exact ((bel_sa hbe v _ _).cell (p := ⟨lb, 0, none⟩) hlb).trans HL.out
          clear hz hz1
          rintro e w5 ⟨rfl, rfl⟩
          by_cases hln : alikeL (plen' ps 0) (plen' ps i) = 0
          · have NX := hid (HINV.out.next (Obj.cells #[.int .i64 v, .slice da (plen' ps i) dc] 36) HV.out hv2 (by rw [HV.out]; exact hvt) HOC.out (by rw [HCE.out]; exact hln))
            rw [hln]
            clear hln cv fv q0 q1
            go_wp2
            exact ⟨⟨i + 1, by omega, by go_num, NX⟩, by simp [intOf]; omega⟩
          · have hst : chkAll k t (pidx ps) ce n = alikeL (plen' ps 0) (plen' ps i) := by
              have h2 : stepE t (pidx ps) ce i = alikeL (plen' ps 0) (plen' ps i) := by unfold stepE; rw [if_neg (by rw [HV.out]; omega), HV.out, if_neg (by rw [HOC.out]; decide), HCE.out]; rfl
              rw [chkAll_stop HINV.out.clean (by rw [h2]; exact hln) hlt, h2]
            have HST := hid hst
            have bn : (alikeL (plen' ps 0) (plen' ps i) != 0) = true := by simpa using hln
            clear hst hln cv fv q0 q1
            generalize alikeL (plen' ps 0) (plen' ps i) = ee at *
            go_wp2
            go_ret
            exact ⟨ret_int HST.out.symm, bel_sa hbe v _ _⟩
    · obtain rfl : i = n := by omega
      have hbe := HINV.out.below
      by_cases hk : (i : Int) < k
      · have hst : chkAll k t (pidx ps) ce i = 12 := by unfold chkAll; rw [if_pos HINV.out.clean, if_pos hk]
        have HST := hid hst
        clear hst
        go_wp2
        go_ret
        exact ⟨ret_int HST.out.symm, hbe⟩
      · have hst : chkAll k t (pidx ps) ce i = 0 := by unfold chkAll; rw [if_pos HINV.out.clean, if_neg hk]
        have HST := hid hst
        clear hst
        go_wp2
        go_ret
        exact ⟨ret_int HST.out.symm, hbe⟩

set_option maxRecDepth 100000 in
theorem checkAlike_any (k t : Int) (a : Option Addr) (n c : Nat) (ps : List (Int × Sl)) (w : World) (ht : t ≤ 255) (hp : Ps w (.slice a n c) ps) (hn : n ≤ 100000) :
    Calls Try.prog 86 #[.int .i64 k, .int .i64 t, .slice a n c] w fun e w' => e = .returned (.int .i64 (chkAll k t (pidx ps) (alikeE ps) n)) ∧ Below w.heap.size w w' := by
  have HP := hid hp
  clear hp
  have hmf : ∀ (fn : Fn) (first cap : Array Value) (w : World), (Instr.makeFunc fn first cap).run Try.prog w = .ok (.func fn first cap) w := fun _ _ _ _ => rfl
  go_enter Try.func86, Try.ntmps86
  go_wp2_with fail
  refine (chkA_any k t a n c w.heap.size ps _ ht (HP.out.below ((Below.refl _ _).alloc (Nat.le_refl _) _)) (by simp [World.cell?_alloc_new]) (by simp) hn).mono ?_
  rintro e w5 ⟨rfl, hb⟩
  go_wp2
  go_ret
  exact ⟨rfl, ((Below.refl _ _).alloc (Nat.le_refl _) _).trans (hb.mono (by simp))⟩
end Go.Proofs.Ytbajekiliplclaa
