/-
  checkPieces of package digest: the error of a list of pieces, by a set of the numbers that have occurred. · What a checked list of pieces gives; the object that pieces determine, as a list. · Decode: the object that pieces determine; its errors. · Small lemmas of Join. · Assemble: the object of a manifest's pieces; what it answers. · Rebuild, and the lemmas of Reb that do without the reference. · Regenerate: the piece that others determine; what it answers. · A Gather of any pieces: complete, Data, Piece, Manifest; Offer of what is refused.
-/
import Derived.Test.YtjgiiciniplbnaaGreatDoorKr1
import Derived.Test.YtjgiiciniplbnaaGreatDoorKa7
import Derived.Test.YtjgiiciniplbnaaGreatDoorKa2
import Derived.Test.YtjgiiciniplbnaaGreatDoorKa8
import Derived.Test.YtjgiiciniplbnaaGreatDoorKa5
namespace Go.Proofs.YtjgiiciniplbnaaGreatDoor
open Go Go.RowKit
open Go.Maps (Keyed)
set_option linter.unusedVariables false

/-- the error of piece i, ce its own -/
def dStep (idx ce : Nat → Int) (i : Nat) : Int := if ce i = 0 then (if occ idx i (idx i) = true then 7 else 0) else ce i
/-- the first error of the first pieces, or 0 -/
def dTo (idx ce : Nat → Int) : Nat → Int
  | 0 => 0
  | i + 1 => if dTo idx ce i = 0 then dStep idx ce i else dTo idx ce i
/-- the error of n pieces of which k are needed -/
def dAll (k : Int) (idx ce : Nat → Int) (n : Nat) : Int := if dTo idx ce n = 0 then (if (n : Int) < k then 12 else 0) else dTo idx ce n
theorem dTo_stop {idx ce : Nat → Int} {i : Nat} (h : dTo idx ce i = 0) (h2 : dStep idx ce i ≠ 0) : ∀ n, i < n → dTo idx ce n = dStep idx ce i
  | 0, hn => absurd hn (Nat.not_lt_zero i)
  | n + 1, hn => by
    unfold dTo
    by_cases e : i = n
    · subst e; rw [if_pos h]
    · rw [dTo_stop h h2 n (by omega), if_neg h2]
theorem dAll_stop {k : Int} {idx ce : Nat → Int} {i n : Nat} (h : dTo idx ce i = 0) (h2 : dStep idx ce i ≠ 0) (hn : i < n) : dAll k idx ce n = dStep idx ce i := by
  unfold dAll
  rw [dTo_stop h h2 n hn, if_neg h2]
theorem dTo_next {idx ce : Nat → Int} {i : Nat} (h : dTo idx ce i = 0) (h2 : dStep idx ce i = 0) : dTo idx ce (i + 1) = 0 := by
  unfold dTo
  rw [if_pos h, h2]
/-- pieces whose bytes may be read -/
def PDat (w : World) (ps : List (Int × Sl)) (D : Nat → List Nat) : Prop := ∀ i, (h : i < ps.length) → Bs w (.slice ps[i].2.1 ps[i].2.2.1 ps[i].2.2.2) (D i) ∧ ps[i].2.2.1 ≤ ps[i].2.2.2 ∧ (ps[i].2.1 = none → ps[i].2.2.2 = 0) ∧ ps[i].2.2.1 ≤ 800000000
theorem PDat.below {w w' : World} {ps : List (Int × Sl)} {D : Nat → List Nat} (h : PDat w ps D) (b : Below w.heap.size w w') : PDat w' ps D := fun i hi => ⟨(h i hi).1.below b, (h i hi).2⟩

theorem cp_zero {k n t s : Int} {m : Nat} {D : List (List Nat)} {x : Int} {pl : List Nat} (h : cpE k n t s m D x pl = 0) :
    manB k n t s m = true ∧ 0 ≤ x ∧ x < t ∧ t ≤ 255 ∧ pl.length = plen k.toNat s.toNat ∧ dig shaRound shaStart ([hi8 x, lo8 x] ++ pl) = D.getD x.toNat [] := by
  unfold cpE at h
  split at h
  case isFalse => exact absurd h (by decide)
  case isTrue hm =>
  split at h
  case isTrue => exact absurd h (by decide)
  case isFalse h1 =>
  split at h
  case isTrue => exact absurd h (by decide)
  case isFalse h2 =>
  split at h
  case isTrue => exact absurd h (by decide)
  case isFalse h3 =>
  have hok := hm
  unfold manB vnB vcB at hok
  simp only [Bool.and_eq_true, decide_eq_true_eq] at hok
  exact ⟨hm, by omega, by omega, by omega, by simpa using h2, by simpa using h3⟩
/-- what the loop keeps -/
structure CkpI (idx ce : Nat → Int) (w0 wr : World) (mb i : Nat) : Prop where
  map : wr.ownsMap Tryz.prog 3 (plainElem (H := Unit) Tryz.prog 4) mb i (seenD idx i)
  kept : Kept mb w0 wr
  clean : dTo idx ce i = 0
theorem zeroBS (w : World) : (zeroValue 4).run Tryz.prog w = .ok (.bool false) w := by kernel_rfl

set_option maxRecDepth 100000 in
set_option maxHeartbeats 4000000 in
theorem ckp_any (w : World) (V : Vars w shaRound shaStart) (k n t s : Int) (od : List Nat) (a : Option Addr) (m c : Nat) (D : List (List Nat)) (ho : od.length = 32) (hD : Dgs w a m c D) (pa : Option Addr) (pn pc : Nat) (ps : List (Int × Sl)) (Dd : Nat → List Nat) (hp : Ps w (.slice pa pn pc) ps) (hd : PDat w ps Dd) (hpn : pn ≤ 100000) :
    Calls Tryz.prog 107 #[.agg (mcells k n t s od (.slice a m c)).toArray, .slice pa pn pc] w fun e w' => e = .returned (.int .i64 (dAll k (pidx ps) (fun i => cpE k n t s m D (pidx ps i) (Dd i)) pn)) ∧ Below w.heap.size w w' := by
  have hmm := @run_makeMap Tryz.prog
  obtain ⟨ce, hce⟩ : ∃ ce : Nat → Int, ce = fun i => cpE k n t s m D (pidx ps i) (Dd i) := ⟨_, rfl⟩
  have HCE := hid hce
  rw [← hce]
  obtain ⟨w1, hw1⟩ : ∃ y, y = w.alloc (.cells (mcells k n t s od (.slice a m c)).toArray 62) := ⟨_, rfl⟩
  have hs1 : w1.heap.size = w.heap.size + 1 := by rw [hw1]; simp
  obtain ⟨mb, hmb⟩ : ∃ y, y = w1.heap.size := ⟨_, rfl⟩
  obtain ⟨w0, hw0⟩ : ∃ y, y = w1.alloc (.map #[] 0) := ⟨_, rfl⟩
  have HB0 := hid (show Below w.heap.size w w0 from by rw [hw0, hw1]; exact ((Below.refl _ _).alloc (Nat.le_refl _) _).alloc (by simp) _)
  have hM : ManAt w0 w.heap.size k n t s od (.slice a m c) := by rw [hw0, hw1]; exact (heap_alloc_old _ _ (by simp)).trans (heap_new _ _)
  have HM := hid hM
  have hmlt : mb < w0.heap.size := by rw [hw0, hmb]; simp
  have hmne : w.heap.size < mb := by omega
  have HI0 := hid (show CkpI (pidx ps) ce w0 w0 mb 0 from ⟨by rw [hw0, hmb]; exact World.ownsMap_made _ _ _ _, Kept.refl _ _, rfl⟩)
  have HIF := hid (show (Tryz.prog.info? 62).map (·.size) = some (mcells k n t s od (.slice a m c)).length from by rw [mcells_length _ _ _ _ _ _ ho]; kernel_rfl)
  have HO := hid ho
  have HV := hid V
  have HDD := hid hD
  have HP := hid hp
  have HD := hid hd
  have HN := hid (show pn = ps.length from by obtain ⟨_, _, h, _⟩ := hp; simp at h; exact h.2.1)
  have hm1 : mb = w.heap.size + 1 := by omega
  clear hce hM ho V hD hp hd
  go_enter Tryz.func107, Tryz.ntmps107
  go_upto_region 2 with fail
  change Code.wp _ _ _ _ ((w.alloc (.cells (mcells k n t s od (.slice a m c)).toArray 62)).alloc (.map #[] 0))
  rw [← hw1, ← hw0]
  clear hw1 hw0 hmm hs1 hmb
  subst hm1
  go_wp2
  go_loopw [12] (fun iv wr => ∃ i : Nat, i ≤ pn ∧ iv = .int .i64 i ∧ Hid (CkpI (pidx ps) ce w0 wr (w.heap.size + 1) i)) (fun iv _ => pn - (intOf iv).toNat)
  case atStart => exact ⟨0, by omega, rfl, HI0⟩
  case round =>
    clear HI0
    obtain ⟨i, hi, rfl, HINV⟩ := hrel
    have HBr := hid (HB0.out.trans (HINV.out.kept.below HB0.out.size (by omega)))
    by_cases hlt : i < pn
    · have HPr := HP.out.below HBr.out
      obtain ⟨b, o, rfl⟩ : ∃ b o, pa = some ⟨b, o, none⟩ := by
        obtain ⟨a', c', h1, h3⟩ := HPr
        obtain ⟨b, o, ha, _⟩ := h3 (by intro e; rw [e] at HN; have := HN.out; simp at this; omega)
        simp at h1
        exact ⟨b, o, h1.1.trans ha⟩
      have hil : i < ps.length := by rw [← HN.out]; exact hlt
      obtain ⟨q0, q1⟩ := HPr.cells i hil
      obtain ⟨hbs, hcap, hnil, hsz⟩ := HD.out i hil
      rw [pidx_at] at q0
      have HDi := hid hbs
      have HNi := hid hnil
      clear HPr hbs hnil
      generalize hdx : pidx ps i = x at *
      generalize (ps[i]'_).2.1 = da at *
      generalize (ps[i]'_).2.2.1 = dn at *
      generalize (ps[i]'_).2.2.2 = dc at *
      have HX := hid hdx
      clear hdx
      obtain ⟨wq, hwq⟩ : ∃ y, y = wr.alloc (.cells #[.int .i64 x, .slice da dn dc] 68) := ⟨_, rfl⟩
      have hpb : wq.heap[wr.heap.size]? = some (.cells #[.int .i64 x, .slice da dn dc] 68 (0, 0)) := by rw [hwq]; exact heap_new _ _
      have HQK := hid (show Kept (w.heap.size + 1) w0 wq from by rw [hwq]; exact HINV.out.kept.alloc _)
      have HMAP := hid (show wq.ownsMap Tryz.prog 3 (plainElem (H := Unit) Tryz.prog 4) (w.heap.size + 1) i (seenD (pidx ps) i) from by rw [hwq]; exact HINV.out.map.alloc _)
      have HBq := hid (HB0.out.trans (HQK.out.below HB0.out.size (by omega)))
      have HRA := hid (range_of_heapI ((HQK.out.block _ (lt_of_heap HM.out) (by omega)).trans HM.out))
      have HCL := hid HINV.out.clean
      have p0 : wq.cell? ⟨wr.heap.size, 0, none⟩ = some (.int .i64 x) := by rw [cell_of_heap hpb]; rfl
      have p1 : wq.cell? ⟨wr.heap.size, 1, none⟩ = some (.slice da dn dc) := by rw [cell_of_heap hpb]; rfl
      have HPB := hid hpb
      have HCK := hid ((chp_any wq (HV.out.below HBq.out) k n t s od a m c D HO.out (HDD.out.below HBq.out) x da dn dc (Dd i) (HDi.out.below HBq.out) hcap HNi.out hsz).mono (fun e w' h => (show e = .returned (.int .i64 (ce i)) ∧ Below wq.heap.size wq w' from ⟨by rw [h.1, HCE.out]; exact congrArg (fun y => Ending.returned (.int .i64 (cpE k n t s m D y (Dd i)))) HX.out.symm, h.2⟩)))
      clear hpb
      go_upto_region 5 with fail
      change Code.wp _ _ _ _ (wr.alloc (.cells #[.int .i64 x, .slice da dn dc] 68))
      rw [← hwq]
      clear hwq q0 q1 HINV
      by_cases hc0 : ce i = 0
      · rw [hc0] at HCK
        have HC0 := hid hc0
        clear hc0
        go_wp2_with (refine wpList_load_mid (by rfl) 62 (.tmp 2) (by rfl) w.heap.size 0 (by rfl) (mcells k n t s od (.slice a m c)) _ HRA.out Tryz.underlying62 rfl HIF.out ?_)
        refine HCK.out.mono ?_
        rintro e w3 ⟨rfl, hb3⟩
        have h3k : Kept (w.heap.size + 1) w0 w3 := HQK.out.trans (Kept.of_below hb3)
        have HK3 := hid h3k
        have HB3 := hid (HB0.out.trans (h3k.below HB0.out.size (by omega)))
        have p0 := (hb3.cell (p := ⟨wr.heap.size, 0, none⟩) (lt_of_heap HPB.out)).trans p0
        have HMAP3 := hid (show w3.ownsMap Tryz.prog 3 (plainElem (H := Unit) Tryz.prog 4) (w.heap.size + 1) i (seenD (pidx ps) i) from HMAP.out.kept (row := none) ⟨hb3.os, hb3.tape, hb3.output, hb3.size, fun q hq _ => hb3.block q hq⟩ (by simp))
        have hz := cp_zero (show cpE k n t s m D (pidx ps i) (Dd i) = 0 from (congrFun HCE.out i).symm.trans HC0.out)
        rw [HX.out] at hz
        obtain ⟨_, hx0, hxt, ht, _, _⟩ := hz
        have hwf : (Lit.int .i64 x).wf = true := by simp [Lit.wf, IntKind.min, IntKind.max, IntKind.signed, IntKind.bits]; omega
        have hkey : keyOf Tryz.prog 3 (.int .i64 x) = some (.int .i64 x) := Maps.keyOf_int_mk Tryz.underlying3 hwf
        have HKEY := hid hkey
        clear hb3 h3k hkey hwf p1 HPB HQK HMAP HBq HRA HCK
        by_cases hoc : occ (pidx ps) i x = true
        · have HST := hid (show dAll k (pidx ps) ce pn = 7 from by
            have h2 : dStep (pidx ps) ce i = 7 := by unfold dStep; rw [if_pos HC0.out, HX.out, if_pos hoc]
            rw [dAll_stop HCL.out (by rw [h2]; decide) hlt, h2])
          have HOC := hid hoc
          clear hoc
          go_wp2_with (at_lookup; refine wpList_lookup_own_boolS _ rfl (.tmp 22) (.tmp 24) 216 rfl 3 4 keyed_intS Tryz.underlying216 Tryz.underlying4 (zeroBS _) (w.heap.size + 1) i _ rfl HMAP3.out _ _ rfl HKEY.out ?_; intro cc hat; obtain rfl : cc = true := by (rw [seenD_at, HOC.out] at hat; simpa using hat.symm))
          go_ret
          exact ⟨ret_int HST.out.symm, HB3.out⟩
        · have hoc : occ (pidx ps) i x = false := by simpa using hoc
          have HOC := hid hoc
          have HNX := hid (show dTo (pidx ps) ce (i + 1) = 0 from dTo_next HCL.out (by unfold dStep; rw [if_pos HC0.out, HX.out, if_neg (by rw [hoc]; decide)]))
          clear hoc
          go_wp2_with (first
            | (at_lookup; refine wpList_lookup_own_boolS _ rfl (.tmp 22) (.tmp 24) 216 rfl 3 4 keyed_intS Tryz.underlying216 Tryz.underlying4 (zeroBS _) (w.heap.size + 1) i _ rfl HMAP3.out _ _ rfl HKEY.out ?_; intro cc hat; obtain rfl : cc = false := by (rw [seenD_at, HOC.out] at hat; simpa using hat.symm))
            | (at_mapUpdate; refine wpList_mapUpdate_own _ rfl (.tmp 26) (.tmp 28) _ 216 rfl 3 4 keyed_intS Tryz.underlying216 _ (w.heap.size + 1) i _ rfl HMAP3.out (by unfold maxLen; omega) _ _ _ rfl rfl HKEY.out _ [] (plainElem_bool Tryz.underlying4 true) ?_; intro w4 hown4 hgrow4; have HI4 := hid (show CkpI (pidx ps) ce w0 w4 (w.heap.size + 1) (i + 1) from ⟨by rw [← HX.out] at hown4; exact hown4, HK3.out.trans ⟨hgrow4.os, hgrow4.tape, hgrow4.output, hgrow4.size, fun q hq hne => hgrow4.block q hq (by intro e; exact hne (Option.some.inj e))⟩, HNX.out⟩); clear hown4 hgrow4))
          exact ⟨⟨i + 1, by omega, by go_num, HI4⟩, by simp [intOf]; omega⟩
      · have HST := hid (show dAll k (pidx ps) ce pn = ce i from by
          have h2 : dStep (pidx ps) ce i = ce i := by unfold dStep; rw [if_neg hc0]
          rw [dAll_stop HCL.out (by rw [h2]; exact hc0) hlt, h2])
        have b1 : (ce i != 0) = true := by simpa using hc0
        clear hc0
        generalize ce i = E at HST b1 HCK
        go_wp2_with (refine wpList_load_mid (by rfl) 62 (.tmp 2) (by rfl) w.heap.size 0 (by rfl) (mcells k n t s od (.slice a m c)) _ HRA.out Tryz.underlying62 rfl HIF.out ?_)
        refine HCK.out.mono ?_
        rintro e w3 ⟨rfl, hb3⟩
        have HB3 := hid (HBq.out.trans (hb3.mono HBq.out.size))
        clear hb3
        go_wp2
        go_ret
        exact ⟨ret_int HST.out.symm, HB3.out⟩
    · obtain rfl : i = pn := by omega
      have HMr := (HINV.out.kept.block _ (lt_of_heap HM.out) (by omega)).trans HM.out
      have c0 : wr.cell? ⟨w.heap.size, 0, none⟩ = some (.int .i64 k) := (show ManAt wr w.heap.size k n t s od (.slice a m c) from HMr).c HO.out |>.1
      clear HMr
      by_cases hk : (i : Int) < k
      · have HST := hid (show dAll k (pidx ps) ce i = 12 from by unfold dAll; rw [if_pos HINV.out.clean, if_pos hk])
        go_wp2
        go_ret
        exact ⟨ret_int HST.out.symm, HBr.out⟩
      · have HST := hid (show dAll k (pidx ps) ce i = 0 from by unfold dAll; rw [if_pos HINV.out.clean, if_neg hk])
        go_wp2
        go_ret
        exact ⟨ret_int HST.out.symm, HBr.out⟩
end Go.Proofs.YtjgiiciniplbnaaGreatDoor

namespace Go.Proofs.YtjgiiciniplbnaaGreatDoor
open Go Go.RowKit
set_option linter.unusedVariables false

theorem chkTo_all {t : Int} {idx ce : Nat → Int} : ∀ {n : Nat}, chkTo t idx ce n = 0 → ∀ i, i < n → stepE t idx ce i = 0
  | 0, _, i, hi => absurd hi (Nat.not_lt_zero i)
  | n + 1, h, i, hi => by
    unfold chkTo at h
    by_cases h0 : chkTo t idx ce n = 0
    · rw [if_pos h0] at h
      by_cases e : i = n
      · rw [e]; exact h
      · exact chkTo_all h0 i (by omega)
    · rw [if_neg h0] at h
      exact absurd h h0
/-- what a checked list gives -/
structure Fit (k t : Int) (idx ce : Nat → Int) (n : Nat) : Prop where
  few : k ≤ n
  lo : ∀ i, i < n → 0 ≤ idx i
  hi : ∀ i, i < n → idx i < t
  ne : ∀ j i, j < i → i < n → idx j ≠ idx i
  ok : ∀ i, i < n → ce i = 0
theorem fit_of {k t : Int} {idx ce : Nat → Int} {n : Nat} (h : chkAll k t idx ce n = 0) : Fit k t idx ce n := by
  unfold chkAll at h
  by_cases h0 : chkTo t idx ce n = 0
  · rw [if_pos h0] at h
    have hk : k ≤ n := by
      by_cases e : (n : Int) < k
      · rw [if_pos e] at h; omega
      · omega
    have hs : ∀ i, i < n → ¬ (idx i < 0 ∨ t ≤ idx i) ∧ occ idx i (idx i) ≠ true ∧ ce i = 0 := fun i hi => by
      have h2 := chkTo_all h0 i hi
      unfold stepE at h2
      by_cases e1 : idx i < 0 ∨ t ≤ idx i
      · rw [if_pos e1] at h2; omega
      · rw [if_neg e1] at h2
        by_cases e2 : occ idx i (idx i) = true
        · rw [if_pos e2] at h2; omega
        · rw [if_neg e2] at h2
          exact ⟨e1, e2, h2⟩
    exact ⟨hk, fun i hi => by have := (hs i hi).1; omega, fun i hi => by have := (hs i hi).1; omega, fun j i hj hi e => (hs i hi).2.1 ((occ_iff _ _ _).2 ⟨j, hj, e⟩), fun i hi => (hs i hi).2.2⟩
  · rw [if_neg h0] at h
    exact absurd h h0
/-- the numbers of the first k pieces -/
def places (ps : List (Int × Sl)) (k : Nat) : List Nat := (List.range k).map fun i => (pidx ps i).toNat
theorem places_length (ps : List (Int × Sl)) (k : Nat) : (places ps k).length = k := by simp [places]
theorem places_getD (ps : List (Int × Sl)) (k i : Nat) (h : i < k) : (places ps k).getD i 0 = (pidx ps i).toNat := by
  unfold places
  rw [List.getD_eq_getElem?_getD, List.getElem?_map, List.getElem?_range h]; rfl
theorem places_lt {ps : List (Int × Sl)} {k n : Nat} {t : Int} {ce : Nat → Int} (h : Fit k t (pidx ps) ce n) (ht : t ≤ 255) : ∀ x ∈ places ps k, x < 256 := fun x hx => by
  obtain ⟨i, hi, rfl⟩ := List.mem_map.1 hx
  have hi := List.mem_range.1 hi
  have h1 := h.few
  have h2 := h.hi i (by omega)
  omega
theorem places_nodup {ps : List (Int × Sl)} {k n : Nat} {t : Int} {ce : Nat → Int} (h : Fit k t (pidx ps) ce n) : (places ps k).Nodup := by
  have h1 := h.few
  unfold places
  rw [List.nodup_iff_pairwise_ne, List.pairwise_map]
  refine (List.pairwise_lt_range (n := k)).imp_of_mem fun {a b} ha hb hab e => ?_
  have hb := List.mem_range.1 hb
  have ha := List.mem_range.1 ha
  have h2 := h.lo a (by omega)
  have h3 := h.lo b (by omega)
  exact h.ne a b hab (by omega) (by omega)
theorem Ps.take {w : World} {a : Option Addr} {n c k : Nat} {ps : List (Int × Sl)} (h : Ps w (.slice a n c) ps) (hk : k ≤ n) : Ps w (.slice a k c) (ps.take k) := by
  obtain ⟨a', c', h1, h3⟩ := h
  simp only [Value.slice.injEq] at h1
  obtain ⟨rfl, rfl, rfl⟩ := h1
  refine ⟨a, c, by rw [List.length_take, Nat.min_eq_left hk], fun hne => ?_⟩
  have hk0 : k ≠ 0 := fun e => hne (by rw [e]; rfl)
  obtain ⟨b, o, ha, hc⟩ := h3 (by intro e; rw [e] at hk; simp at hk; omega)
  refine ⟨b, o, ha, fun i hi => ?_⟩
  have hi2 : i < ps.length := by rw [List.length_take] at hi; omega
  rw [List.getElem_take]
  exact hc i hi2
/-- the byte of the object at p -/
def joinF (D : List (List Nat)) (l : List Nat) (L k p : Nat) : Nat := (mixL D (wts l (scales l) (p / L)) L k).getD (p % L) 0
/-- the object -/
def joinL (D : List (List Nat)) (l : List Nat) (L k size : Nat) : List Nat := (List.range size).map (joinF D l L k)
theorem splice_upTo (n : Nat) (f : Nat → Nat) (q : Nat) (P : List Nat) (hq : q + P.length ≤ n) (hf : ∀ c, c < P.length → f (q + c) = P.getD c 0) : splice (u8s (upTo n f q)) q (u8s P) = u8s (upTo n f (q + P.length)) := by
  apply List.ext_getElem?
  intro c
  have hl1 : ((u8s (upTo n f q)).take q).length = q := by simp [u8s, upTo]; omega
  unfold splice
  by_cases h1 : c < q
  · rw [List.getElem?_append_left (by rw [hl1]; exact h1), List.getElem?_take_of_lt h1]
    unfold u8s upTo
    rw [List.getElem?_map, List.getElem?_map, List.getElem?_map, List.getElem?_map]
    by_cases h2 : c < n
    · rw [List.getElem?_range h2]
      simp only [Option.map_some]
      rw [if_pos h1, if_pos (by omega)]
    · omega
  · rw [List.getElem?_append_right (by rw [hl1]; omega), hl1]
    by_cases h2 : c < q + P.length
    · have h3 : c - q < P.length := by omega
      rw [List.getElem?_append_left (by simp [u8s]; omega)]
      unfold u8s upTo
      rw [List.getElem?_map, List.getElem?_map, List.getElem?_map, List.getElem?_range (by omega), List.getElem?_eq_getElem h3]
      simp only [Option.map_some]
      have h4 := hf (c - q) h3
      rw [show q + (c - q) = c from by omega, List.getD_eq_getElem?_getD, List.getElem?_eq_getElem h3] at h4
      rw [if_pos h2, h4]
      rfl
    · rw [List.getElem?_append_right (by simp [u8s]; omega), List.getElem?_drop]
      have e : q + (u8s P).length + (c - q - (u8s P).length) = c := by simp [u8s]; omega
      rw [e]
      unfold u8s upTo
      rw [List.getElem?_map, List.getElem?_map, List.getElem?_map, List.getElem?_map]
      by_cases h4 : c < n
      · rw [List.getElem?_range h4]
        simp only [Option.map_some]
        rw [if_neg h1, if_neg h2]
      · rw [List.getElem?_eq_none (by simp; omega)]
        rfl
theorem u8s_oneC (l : List Nat) : ∀ v ∈ u8s l, v.oneCell' = true := by
  intro v hv
  unfold u8s at hv
  obtain ⟨x, _, rfl⟩ := List.mem_map.1 hv
  rfl
theorem joinF_at (D : List (List Nat)) (l : List Nat) (L k i c : Nat) (hc : c < L) : joinF D l L k (i * L + c) = (mixL D (wts l (scales l) i) L k).getD c 0 := by
  unfold joinF
  have h1 : (i * L + c) / L = i := by
    rw [Nat.mul_comm, Nat.mul_add_div (by omega), Nat.div_eq_of_lt hc, Nat.add_zero]
  have h2 : (i * L + c) % L = c := by
    rw [Nat.mul_comm, Nat.mul_add_mod, Nat.mod_eq_of_lt hc]
  rw [h1, h2]
end Go.Proofs.YtjgiiciniplbnaaGreatDoor

namespace Go.Proofs.YtjgiiciniplbnaaGreatDoor
open Go Go.RowKit
set_option linter.unusedVariables false

/-- pieces that a call may read, whatever the field's block becomes -/
def Held (fb : Nat) (w : World) (v : Value) (ps : List (Int × Sl)) (D : Nat → List Nat) : Prop :=
  ∀ w', Kept fb w w' → Ps w' v ps ∧ ∀ i, (h : i < ps.length) → Bs w' (.slice ps[i].2.1 ps[i].2.2.1 ps[i].2.2.2) (D i)
theorem Held.step {fb : Nat} {w w' : World} {v : Value} {ps : List (Int × Sl)} {D : Nat → List Nat} (h : Held fb w v ps D) (k : Kept fb w w') : Held fb w' v ps D := fun w2 k2 => h w2 (k.trans k2)
theorem Held.now {fb : Nat} {w : World} {v : Value} {ps : List (Int × Sl)} {D : Nat → List Nat} (h : Held fb w v ps D) : Ps w v ps ∧ ∀ i, (h : i < ps.length) → Bs w (.slice ps[i].2.1 ps[i].2.2.1 ps[i].2.2.2) (D i) := h w (Kept.refl _ _)
theorem Held.len {fb : Nat} {w : World} {a : Option Addr} {n c : Nat} {ps : List (Int × Sl)} {D : Nat → List Nat} (h : Held fb w (.slice a n c) ps D) : n = ps.length := by
  obtain ⟨_, _, h1, _⟩ := h.now.1
  simp at h1
  exact h1.2.1
theorem Held.data {fb : Nat} {w : World} {v : Value} {ps : List (Int × Sl)} {D : Nat → List Nat} (h : Held fb w v ps D) (i : Nat) (hi : i < ps.length) : (D i).length = plen' ps i := by
  have h1 := (h.now.2 i hi).len
  rw [plen_at] at h1
  exact h1.symm

theorem Decode_size (fb : Nat) (k t : Int) (size : Int) (a : Option Addr) (n c : Nat) (h : ¬ (1 ≤ k ∧ k ≤ t ∧ t ≤ 255 ∧ 0 ≤ size ∧ size ≤ 8192)) (w : World) :
    Calls Tryz.prog 108 #[.pointer (some ⟨fb, 0, none⟩), .int .i64 k, .int .i64 t, .int .i64 size, .slice a n c] w fun e w' => e = .returned (.tuple #[.slice none 0 0, .int .i64 2]) ∧ Below w.heap.size w w' := by
  have hnot : ∀ (x : Bool) (w : World), (Op.unary .not (.bool x)).run Tryz.prog w = .ok (.bool (!x)) w := fun _ _ => rfl
  by_cases h1 : 1 ≤ k ∧ k ≤ t ∧ t ≤ 255
  · obtain ⟨a1, a2, a3⟩ := h1
    have H := hid (show ¬ (1 ≤ k ∧ k ≤ 255 ∧ 0 ≤ size ∧ size ≤ 8192) from fun hh => h ⟨a1, a2, a3, hh.2.2.1, hh.2.2.2⟩)
    clear h
    go_enter Tryz.func108, Tryz.ntmps108
    go_wp2_with fail
    refine (size_bad k size H.out _).mono ?_
    rintro e w' ⟨rfl, rfl⟩
    go_wp2_with fail
    refine (valid_yes k t a1 a2 a3 _).mono ?_
    rintro e w' ⟨rfl, rfl⟩
    go_wp2
    go_ret2
    exact ⟨rfl, (Below.refl _ _).alloc (Nat.le_refl _) _⟩
  · have H := hid h1
    clear h h1
    have hps : ∃ x y : Int, ∀ w : World, Calls Tryz.prog 92 #[.int .i64 k, .int .i64 size] w fun e w' => e = .returned (.tuple #[.int .i64 x, .int .i64 y]) ∧ w = w' := by
      by_cases h2 : 1 ≤ k ∧ k ≤ 255 ∧ 0 ≤ size ∧ size ≤ 8192
      · obtain ⟨b1, b2, b3, b4⟩ := h2
        obtain ⟨kn, rfl⟩ : ∃ m : Nat, k = m := ⟨k.toNat, by omega⟩
        obtain ⟨sn, rfl⟩ : ∃ m : Nat, size = m := ⟨size.toNat, by omega⟩
        exact ⟨_, _, fun w => size_ok kn sn (by omega) (by omega) (by omega) w⟩
      · exact ⟨_, _, fun w => size_bad k size h2 w⟩
    obtain ⟨x, y, hps⟩ := hps
    have HPS := hid hps
    clear hps
    go_enter Tryz.func108, Tryz.ntmps108
    go_wp2_with fail
    refine (HPS.out _).mono ?_
    rintro e w' ⟨rfl, rfl⟩
    go_wp2_with fail
    refine (valid_no k t H.out _).mono ?_
    rintro e w' ⟨rfl, rfl⟩
    go_wp2
    go_ret2
    exact ⟨rfl, (Below.refl _ _).alloc (Nat.le_refl _) _⟩

theorem Decode_err (fb k t size : Nat) (a : Option Addr) (n c : Nat) (ps : List (Int × Sl)) (h1 : 1 ≤ k) (h2 : k ≤ t) (h3 : t ≤ 255) (h4 : size ≤ 8192) (hn : n ≤ 100000) (w : World) (hp : Ps w (.slice a n c) ps)
    (hne : chkAll k t (pidx ps) (fun i => if ((plen' ps i : Nat) : Int) = (plen k size : Nat) then 0 else 10) n ≠ 0) :
    Calls Tryz.prog 108 #[.pointer (some ⟨fb, 0, none⟩), .int .i64 k, .int .i64 t, .int .i64 size, .slice a n c] w fun e w' => e = .returned (.tuple #[.slice none 0 0, .int .i64 (chkAll k t (pidx ps) (fun i => if ((plen' ps i : Nat) : Int) = (plen k size : Nat) then 0 else 10) n)]) ∧ Below w.heap.size w w' := by
  have hnot : ∀ (x : Bool) (w : World), (Op.unary .not (.bool x)).run Tryz.prog w = .ok (.bool (!x)) w := fun _ _ => rfl
  have hmf : ∀ (fn : Fn) (first cap : Array Value) (w : World), (Instr.makeFunc fn first cap).run Tryz.prog w = .ok (.func fn first cap) w := fun _ _ _ _ => rfl
  have bn : (chkAll k t (pidx ps) (fun i => if ((plen' ps i : Nat) : Int) = (plen k size : Nat) then 0 else 10) n != 0) = true := by simpa using hne
  have HP := hid hp
  have hc := fun w0 h0 hw0 => chkD_any (k : Int) (t : Int) a n c w.heap.size (plen k size : Nat) ps w0 (by omega) (HP.out.below h0) hw0
  have HC := hid hc
  clear hp hne hc
  generalize chkAll k t (pidx ps) (fun i => if ((plen' ps i : Nat) : Int) = (plen k size : Nat) then 0 else 10) n = ee at *
  go_enter Tryz.func108, Tryz.ntmps108
  go_wp2_with fail
  refine (size_ok k size h1 (by omega) h4 _).mono ?_
  rintro e w' ⟨rfl, rfl⟩
  go_wp2_with fail
  refine (valid_yes k t (by omega) (by omega) (by omega) _).mono ?_
  rintro e w' ⟨rfl, rfl⟩
  go_wp2_with fail
  refine (HC.out _ ((Below.refl _ _).alloc (Nat.le_refl _) _) (by simp [World.cell?_alloc_new]) (by simp) hn).mono ?_
  rintro e w5 ⟨rfl, hb⟩
  go_wp2
  go_ret2
  exact ⟨rfl, ((Below.refl _ _).alloc (Nat.le_refl _) _).trans (hb.mono (by simp))⟩

theorem rmap_getD (f : Nat → List Nat) (n i : Nat) (h : i < n) : ((List.range n).map f).getD i [] = f i := by
  rw [List.getD_eq_getElem?_getD, List.getElem?_map, List.getElem?_range h]; rfl
/-- what the loop of Decode keeps -/
structure DecI (fb pb sb xb ob b o k c size L : Nat) (ps : List (Int × Sl)) (l : List Nat) (D : List (List Nat)) (W w : World) (i : Nat) : Prop where
  built : Built w fb
  rd : Ps w (.slice (some ⟨b, o, none⟩) k c) ps
  dat : ∀ i, (h : i < ps.length) → Bs w (.slice ps[i].2.1 ps[i].2.2.1 ps[i].2.2.2) (D.getD i []) ∧ (D.getD i []).length = L
  pl : Own w pb l
  sc : Own w sb (scales l)
  box : w.heap[xb]? = some (Obj.cells #[Value.slice (some ⟨b, o, none⟩) k c, Value.pointer (some ⟨fb, 0, none⟩), Value.slice (some ⟨pb, 0, none⟩) k k, Value.slice (some ⟨sb, 0, none⟩) k k] 197)
  out : Own w ob (upTo size (joinF D l L k) (min (i * L) size))
  kept : Kept fb W w
  ne : fb < ob ∧ pb < ob ∧ sb < ob ∧ xb < ob ∧ W.heap.size ≤ ob
  far : ∀ w2, Below ob w w2 → Ps w2 (.slice (some ⟨b, o, none⟩) k c) ps ∧ ∀ i, (h : i < ps.length) → Bs w2 (.slice ps[i].2.1 ps[i].2.2.1 ps[i].2.2.2) (D.getD i []) ∧ (D.getD i []).length = L
theorem DecI.step {fb pb sb xb ob b o k c size L : Nat} {ps : List (Int × Sl)} {l : List Nat} {D : List (List Nat)} {W w w2 : World} {i i' : Nat} (h : DecI fb pb sb xb ob b o k c size L ps l D W w i) (kk : Below ob w w2) (ho : Own w2 ob (upTo size (joinF D l L k) (min (i' * L) size))) : DecI fb pb sb xb ob b o k c size L ps l D W w2 i' := by
  obtain ⟨n1, n2, n3, n4, n5⟩ := h.ne
  have hk : ∀ q x, w.heap[q]? = some x → q < ob → w2.heap[q]? = some x := fun q x hq hlt => (kk.block q hlt).trans hq
  obtain ⟨f1, f2⟩ := h.far w2 kk
  refine ⟨hk _ _ h.built n1, f1, f2, hk _ _ h.pl n2, hk _ _ h.sc n3, hk _ _ h.box n4, ho, ?_, h.ne, fun w3 k3 => h.far w3 (kk.trans k3)⟩
  exact ⟨kk.os.trans h.kept.os, kk.tape.trans h.kept.tape, kk.output.trans h.kept.output, Nat.le_trans h.kept.size kk.size, fun q hq hqb => (kk.block q (by omega)).trans (h.kept.block q hq hqb)⟩

set_option maxRecDepth 100000 in
set_option maxHeartbeats 4000000 in
theorem Decode_ok (fb k t size : Nat) (a : Option Addr) (n c : Nat) (ps : List (Int × Sl)) (D : Nat → List Nat) (h1 : 1 ≤ k) (h2 : k ≤ t) (h3 : t ≤ 255) (h4 : size ≤ 8192) (hn : n ≤ 100000) (hnc : n ≤ c) (w : World) (hF : Fld w fb) (hH : Held fb w (.slice a n c) ps D)
    (hz : chkAll k t (pidx ps) (fun i => if ((plen' ps i : Nat) : Int) = (plen k size : Nat) then 0 else 10) n = 0) :
    Calls Tryz.prog 108 #[.pointer (some ⟨fb, 0, none⟩), .int .i64 k, .int .i64 t, .int .i64 size, .slice a n c] w fun e w' => ∃ ob, w.heap.size ≤ ob ∧ e = .returned (.tuple #[.slice (some ⟨ob, 0, none⟩) size size, .int .i64 0]) ∧ Own w' ob (joinL ((List.range k).map D) (places ps k) (plen k size) k size) ∧ Built w' fb ∧ Kept fb w w' := by
  have hnot : ∀ (x : Bool) (w : World), (Op.unary .not (.bool x)).run Tryz.prog w = .ok (.bool (!x)) w := fun _ _ => rfl
  have hmf : ∀ (fn : Fn) (first cap : Array Value) (w : World), (Instr.makeFunc fn first cap).run Tryz.prog w = .ok (.func fn first cap) w := fun _ _ _ _ => rfl
  have hfit := fit_of hz
  have hkn : k ≤ n := by have := hfit.few; omega
  have hnp := hH.len
  obtain ⟨b, o, rfl⟩ : ∃ b o, a = some ⟨b, o, none⟩ := by
    obtain ⟨a', c', e1, e3⟩ := hH.now.1
    obtain ⟨b, o, ha, _⟩ := e3 (by intro e; rw [e] at hnp; simp at hnp; omega)
    simp at e1
    exact ⟨b, o, e1.1.trans ha⟩
  have hc := chkD_any (k : Int) (t : Int) (some ⟨b, o, none⟩) n c w.heap.size (plen k size : Nat) ps
  rw [hz] at hc
  have HC := hid hc
  have hlens : ∀ i, i < n → plen' ps i = plen k size := fun i hi => by
    have h5 := hfit.ok i hi
    by_cases e : ((plen' ps i : Nat) : Int) = (plen k size : Nat)
    · omega
    · rw [if_neg e] at h5; omega
  have HLENS := hid hlens
  have HFIT := hid hfit
  have HN := hid hnp
  have HF := hid hF
  have HH := hid hH
  have hfb0 := hF.lt
  have hLn := plen_le k size h1
  have HKL := hid (plen_ge k size h1)
  clear hF hH hz hc hnp hlens hfit
  generalize hL : plen k size = L at *
  have HL := hid hL
  clear hL
  go_enter Tryz.func108, Tryz.ntmps108
  go_wp2_with fail
  refine (size_ok k size h1 (by omega) h4 _).mono ?_
  rw [HL.out]
  rintro e w' ⟨rfl, rfl⟩
  go_wp2_with fail
  refine (valid_yes k t (by omega) (by omega) (by omega) _).mono ?_
  rintro e w' ⟨rfl, rfl⟩
  have hb1 : Below w.heap.size w (w.alloc (Obj.cells #[.int .i64 L] 3)) := (Below.refl _ _).alloc (Nat.le_refl _) _
  go_wp2_with fail
  refine (HC.out _ (by omega) (HH.out.now.1.below hb1) (by simp [World.cell?_alloc_new]) (by simp) hn).mono ?_
  rintro e w2 ⟨rfl, hb2⟩
  have hb12 : Below w.heap.size w w2 := hb1.trans (hb2.mono (by simp))
  have HB12 := hid hb12
  have hF2 : Fld w2 fb := HF.out.elim (fun h => .inl ((hb12.block _ hfb0).trans h)) (fun h => .inr ((hb12.block _ hfb0).trans h))
  clear hb1 hb2 hb12
  go_wp2_with fail
  refine (build_any fb _ hF2).mono ?_
  rintro e w3 ⟨rfl, hB3, hk3⟩
  have hK3 : Kept fb w w3 := (Kept.of_below HB12.out).trans hk3
  have HK3 := hid hK3
  have HH3 := hid (HH.out.step hK3)
  have HB3 := hid hB3
  clear hK3 hk3 hF2 hB3
  have hps3 := HH3.out.now.1.take hkn
  have HPS3 := hid hps3
  have hkp : k = (ps.take k).length := by rw [List.length_take, ← HN.out, Nat.min_eq_left hkn]
  have HKP := hid hkp
  have hcc : k ≤ c := by omega
  clear hps3 hkp
  have hpl := places_length ps k
  have HPL := hid hpl
  have hnum : ∀ i, (h : i < (ps.take k).length) → (ps.take k)[i].1 = (((places ps k).getD i 0 : Nat) : Int) := fun i h => by
    rw [← HKP.out] at h
    have h5 := HFIT.out.lo i (by omega)
    rw [List.getElem_take, pidx_at, places_getD ps k i h]
    omega
  have HNUM := hid hnum
  have HLT := hid (places_lt (k := k) HFIT.out (by omega))
  have HND := hid (places_nodup (k := k) HFIT.out)
  clear hnum hpl
  go_wp2_with fail
  refine (newSource_n fb b o c k (ps.take k) (places ps k) HKP.out _ HB3.out HPS3.out (by omega) (by omega) (by rw [HPL.out, ← HKP.out]) HNUM.out HLT.out HND.out).mono ?_
  rintro e w4 ⟨pb, sb, hpb, hsb, rfl, hopb, hosb, hb4⟩
  generalize hpls : places ps k = l at *
  have HPLS := hid hpls
  clear hpls
  have hdat : ∀ w', Kept fb w w' → ∀ i, (h : i < (ps.take k).length) → Bs w' (.slice (ps.take k)[i].2.1 (ps.take k)[i].2.2.1 (ps.take k)[i].2.2.2) (((List.range k).map D).getD i []) ∧ (((List.range k).map D).getD i []).length = L := fun w' hkk i h => by
    have h' := h
    rw [← HKP.out] at h'
    have hi2 : i < ps.length := by rw [← HN.out]; omega
    rw [rmap_getD _ _ _ h']
    simp only [List.getElem_take]
    exact ⟨(HH.out w' hkk).2 i hi2, by rw [HH.out.data i hi2]; exact HLENS.out i (by omega)⟩
  have HDAT := hid hdat
  have hsz := HB3.out.lt
  have hs4 := hb4.size
  have hs3 := HK3.out.size
  have hinv : DecI fb pb sb w4.heap.size (w4.heap.size + 1) b o k c size L (ps.take k) l ((List.range k).map D) w ((w4.alloc (Obj.cells #[Value.slice (some ⟨b, o, none⟩) k c, Value.pointer (some ⟨fb, 0, none⟩), Value.slice (some ⟨pb, 0, none⟩) k k, Value.slice (some ⟨sb, 0, none⟩) k k] 197)).alloc (zrow size)) 0 := by
    have hbb : Below w3.heap.size w3 ((w4.alloc (Obj.cells #[Value.slice (some ⟨b, o, none⟩) k c, Value.pointer (some ⟨fb, 0, none⟩), Value.slice (some ⟨pb, 0, none⟩) k k, Value.slice (some ⟨sb, 0, none⟩) k k] 197)).alloc (zrow size)) := (hb4.alloc (by omega) _).alloc (by simp; omega) _
    have hkk : Kept fb w ((w4.alloc (Obj.cells #[Value.slice (some ⟨b, o, none⟩) k c, Value.pointer (some ⟨fb, 0, none⟩), Value.slice (some ⟨pb, 0, none⟩) k k, Value.slice (some ⟨sb, 0, none⟩) k k] 197)).alloc (zrow size)) := HK3.out.trans (Kept.of_below hbb)
    have ho := own_zrow (w4.alloc (Obj.cells #[Value.slice (some ⟨b, o, none⟩) k c, Value.pointer (some ⟨fb, 0, none⟩), Value.slice (some ⟨pb, 0, none⟩) k k, Value.slice (some ⟨sb, 0, none⟩) k k] 197)) size
    rw [World.size_alloc, ← upTo_zero size (joinF ((List.range k).map D) l L k)] at ho
    have e0 : min (0 * L) size = 0 := by omega
    have hpl := hopb.lt
    have hsl := hosb.lt
    refine ⟨HB3.out.below hbb HB3.out.lt, HPS3.out.below hbb, HDAT.out _ hkk, (hopb.alloc _).alloc _, (hosb.alloc _).alloc _, heap_alloc (heap_new _ _) _, by rw [e0]; exact ho, hkk, by omega, fun w2 k2 => ?_⟩
    have k3 : Kept fb w w2 := ⟨k2.os.trans hkk.os, k2.tape.trans hkk.tape, k2.output.trans hkk.output, Nat.le_trans hkk.size k2.size, fun q hq hqb => (k2.block q (by omega)).trans (hkk.block q hq hqb)⟩
    exact ⟨(HH.out w2 k3).1.take hkn, HDAT.out w2 k3⟩
  have HINV := hid hinv
  have hmk := mk_u8 size (by omega)
  clear hinv hopb hosb hdat hb4
  go_wp2
  clear hmk
  go_loopw [16, 17, 53] (fun rv _ iv wr => ∃ (i : Nat) (ra : Option Addr), i ≤ k ∧ iv = .int .i64 i ∧ rv = .slice ra (size - min (i * L) size) (size - min (i * L) size) ∧ Hid (0 < size - min (i * L) size → ra = some ⟨w4.heap.size + 1, min (i * L) size, none⟩) ∧ Hid (DecI fb pb sb w4.heap.size (w4.heap.size + 1) b o k c size L (ps.take k) l ((List.range k).map D) w wr i)) (fun _ _ iv _ => k - (intOf iv).toNat)
  case atStart => exact ⟨0, some ⟨w4.heap.size + 1, 0, none⟩, by omega, rfl, by simp, hid (by rw [Nat.zero_mul, Nat.zero_min]; exact fun _ => rfl), HINV⟩
  case round =>
    clear HINV
    obtain ⟨i, ra, hi, rfl, rfl, HRA, HINV⟩ := hrel
    by_cases hlt : i < k
    · obtain ⟨q, hq⟩ : ∃ q, q = min (i * L) size := ⟨_, rfl⟩
      have hqn : q ≤ size := by omega
      have HQ := hid hq
      rw [← hq] at HRA ⊢
      clear hq
      have hx := HINV.out.box
      have x0 := cell_of_heap hx 0
      have x1 := cell_of_heap hx 1
      have x2 := cell_of_heap hx 2
      have x3 := cell_of_heap hx 3
      clear hx
      have hpl : Bs wr (.slice (some ⟨pb, 0, none⟩) k k) l := by
        have h5 := HINV.out.pl.bs HLT.out k
        rwa [HPL.out] at h5
      have hsl : Bs wr (.slice (some ⟨sb, 0, none⟩) k k) (scales l) := by
        have h5 := HINV.out.sc.bs (scales_lt _) k
        rwa [scales_length, HPL.out] at h5
      go_wp2_with fail
      refine (piece_any fb b o c pb 0 k sb 0 k k L i (ps.take k) l ((List.range k).map D) _ HINV.out.built HINV.out.rd (by omega) (by omega) HKP.out HPL.out.symm HINV.out.dat hpl hsl (by omega) (by omega)).mono ?_
      rintro e w5 ⟨pc, hpc, rfl, hoo, hb5⟩
      obtain ⟨P, hP⟩ : ∃ P, P = (mixL ((List.range k).map D) (wts l (scales l) i) L k).take (size - q) := ⟨_, rfl⟩
      have HP := hid hP
      have hPl : P.length = min (size - q) L := by rw [hP, List.length_take, mixL_length]
      have HPN := hid hPl
      clear hP hPl
      have hob5 : w4.heap.size + 1 < wr.heap.size := HINV.out.out.lt
      have hb5' : Below (w4.heap.size + 1) wr w5 := hb5.mono (by omega)
      have hout5 : Own w5 (w4.heap.size + 1) (upTo size (joinF ((List.range k).map D) l L k) q) := by
        rw [HQ.out]
        exact HINV.out.out.below hb5 hob5
      have HO5 := hid hout5
      have hoo' := hoo
      have HOO := hid hoo'
      have hcsl : (u8s P).length = Nat.min L (size - q) := by show _ = min L (size - q); simp [u8s, HPN.out]; omega
      have HCSL := hid hcsl
      clear hout5 hoo hoo' hcsl hpl hsl x0 x1 x2 x3
      go_wp2_with (refine wpList_copy_splice rfl (.tmp 57) (.tmp 60) 66 66 rfl 5 Tryz.underlying66 (by kernel_rfl) ra (some ⟨pc, 0, none⟩) (size - q) (size - q) L L rfl rfl (w4.heap.size + 1) q (u8s (upTo size (joinF ((List.range k).map D) l L k) q)) 5 ?hg (u8s P) HCSL.out ?hpos ?hfit (u8s_oneC P) (w4.heap.size + 1) w5 (Below.refl _ _) (Nat.le_refl _) ?_)
      case hg => exact HO5.out
      case hfit =>
        have h7 : (u8s P).length = P.length := by simp [u8s]
        have h9 : ∀ f, (u8s (upTo size f q)).length = size := fun f => by simp [u8s, upTo_length]
        rw [h7, h9]
        have := HPN.out
        omega
      case hpos =>
        intro hpos
        have h7 : (u8s P).length = P.length := by simp [u8s]
        have h8 := HPN.out
        refine ⟨HRA.out (by omega), _, rfl, fun j v hj => ?_⟩
        have hjl : j < P.length := by have := (List.getElem?_eq_some_iff.1 hj).1; omega
        have hc := HOO.out.cell j (by rw [mixL_length]; omega)
        have e : (⟨pc, 0, none⟩ : Addr).add j = ⟨pc, j, none⟩ := by unfold Addr.add; split <;> simp_all
        rw [e, hc, ← hj, HP.out]
        unfold u8s
        rw [List.getElem?_map, List.getElem?_take_of_lt (by omega), List.getElem?_eq_getElem (by rw [mixL_length]; omega), List.getD_eq_getElem?_getD, List.getElem?_eq_getElem (by rw [mixL_length]; omega)]
        rfl
      intro w6 hg6 hb6
      have h7 : (u8s P).length = P.length := by simp [u8s]
      have hqs : min ((i + 1) * L) size = q + (u8s P).length := by
        have h5 := HPN.out
        have h6 := HQ.out
        rw [h7, h5, Nat.succ_mul]
        generalize i * L = z at *
        omega
      have HQS := hid hqs
      have hout6 : Own w6 (w4.heap.size + 1) (upTo size (joinF ((List.range k).map D) l L k) (min ((i + 1) * L) size)) := by
        have h8 := hg6.out
        rw [splice_upTo size (joinF ((List.range k).map D) l L k) q P (by have := HPN.out; omega) (fun c hc => by
          have h9 := HPN.out
          have h10 := HQ.out
          have h11 : q = i * L := by
            rcases Nat.le_total (i * L) size with hh | hh
            · rw [h10, Nat.min_eq_left hh]
            · rw [Nat.min_eq_right hh] at h10; omega
          have hcL : c < L := by omega
          rw [h11, joinF_at _ _ _ _ _ _ hcL, HP.out, List.getD_eq_getElem?_getD, List.getD_eq_getElem?_getD, List.getElem?_take_of_lt (by omega)])] at h8
        rw [HQS.out, h7]
        exact h8
      have HNX := hid (HINV.out.step (hb5'.trans hb6) hout6)
      have hm1 : (u8s P).length ≤ size - q := by have := HPN.out; omega
      have HM1 := hid hm1
      clear h7 hqs hout6 hb6 hg6 hb5' hm1
      generalize hm : (u8s P).length = m at *
      have hm2 : m ≤ size - q := HM1.out
      clear hm
      go_wp2
      refine ⟨⟨i + 1, _, by omega, by go_num, by rw [HQS.out, Nat.sub_add_eq], ?_, HNX⟩, by simp [intOf]; omega⟩
      refine hid ?_
      rw [HQS.out]
      intro hpos
      have hra := HRA.out (by omega)
      have hne : ¬ (size - q = m) := by omega
      rw [if_neg hne, hra]
      simp [Addr.add]
    · obtain rfl : i = k := by omega
      have hout := HINV.out.out
      have e : min (i * L) size = size := Nat.min_eq_right HKL.out
      rw [e] at hout
      have hlow := HINV.out.ne
      have HO := hid hout
      clear hout e
      go_wp2
      go_ret2
      refine ⟨_, hlow.2.2.2.2, rfl, ?_, HINV.out.built, HINV.out.kept⟩
      have h5 := HO.out
      rw [upTo_all, ← HPLS.out] at h5
      exact h5
end Go.Proofs.YtjgiiciniplbnaaGreatDoor

namespace Go.Proofs.YtjgiiciniplbnaaGreatDoor
open Go Go.RowKit
set_option linter.unusedVariables false
theorem joinF_lt {D : List (List Nat)} {l : List Nat} {L k p : Nat} (h : ∀ i j, (D.getD i []).getD j 0 < 256) : joinF D l L k p < 256 := getD_lt (mixL_lt D (wts l (scales l) (p / L)) L k (fun i => getD_lt (wts_lt _ _ _) i)) _
theorem Bs.take {w : World} {a : Option Addr} {n c : Nat} {l : List Nat} (h : Bs w (.slice a n c) l) (m : Nat) (hm : m ≤ n) : Bs w (.slice a m c) (l.take m) := by
  have hlen := h.len
  obtain ⟨a', c', h1, h2, h3⟩ := h
  simp only [Value.slice.injEq] at h1
  obtain ⟨rfl, _, rfl⟩ := h1
  refine ⟨a, c, by rw [List.length_take, ← hlen, Nat.min_eq_left hm], fun x hx => h2 x (List.mem_of_mem_take hx), fun hne => ?_⟩
  have hm0 : m ≠ 0 := fun e => hne (by rw [e]; rfl)
  obtain ⟨b, o, ha, hc⟩ := h3 (by intro e; rw [e] at hlen; simp at hlen; omega)
  refine ⟨b, o, ha, fun i hi => ?_⟩
  rw [List.length_take] at hi
  rw [hc i (by omega), List.getD_eq_getElem?_getD, List.getD_eq_getElem?_getD, List.getElem?_take_of_lt (by omega)]
end Go.Proofs.YtjgiiciniplbnaaGreatDoor

namespace Go.Proofs.YtjgiiciniplbnaaGreatDoor
open Go Go.RowKit
set_option linter.unusedVariables false

theorem dTo_all {idx ce : Nat → Int} : ∀ {n : Nat}, dTo idx ce n = 0 → ∀ i, i < n → ce i = 0 ∧ occ idx i (idx i) = false
  | 0, _, i, hi => absurd hi (Nat.not_lt_zero i)
  | n + 1, h, i, hi => by
    unfold dTo at h
    by_cases e : dTo idx ce n = 0
    · rw [if_pos e] at h
      by_cases e2 : i = n
      · subst e2
        unfold dStep at h
        by_cases e3 : ce i = 0
        · rw [if_pos e3] at h
          cases ho : occ idx i (idx i) with
          | true => rw [ho] at h; exact absurd h (by decide)
          | false => exact ⟨e3, rfl⟩
        · rw [if_neg e3] at h
          exact absurd h e3
      · exact dTo_all e i (by omega)
    · rw [if_neg e] at h
      exact absurd h e
theorem dAll_zero {k : Int} {idx ce : Nat → Int} {n : Nat} (h : dAll k idx ce n = 0) : dTo idx ce n = 0 ∧ k ≤ (n : Int) := by
  unfold dAll at h
  by_cases e : dTo idx ce n = 0
  · rw [if_pos e] at h
    by_cases e2 : (n : Int) < k
    · rw [if_pos e2] at h; exact absurd h (by decide)
    · exact ⟨e, by omega⟩
  · rw [if_neg e] at h; exact absurd h e
theorem chk_of {k t : Int} {idx ce : Nat → Int} {n : Nat} (h : ∀ i, i < n → 0 ≤ idx i ∧ idx i < t ∧ occ idx i (idx i) = false ∧ ce i = 0) (hk : k ≤ (n : Int)) : chkAll k t idx ce n = 0 := by
  have h1 : ∀ m, m ≤ n → chkTo t idx ce m = 0 := fun m => by
    induction m with
    | zero => intro _; rfl
    | succ m ih =>
      intro hm
      obtain ⟨a1, a2, a3, a4⟩ := h m (by omega)
      refine chkTo_next (ih (by omega)) ?_
      unfold stepE
      rw [if_neg (by omega), a3, if_neg (by decide), a4]
  unfold chkAll
  rw [if_pos (h1 n (Nat.le_refl _)), if_neg (by omega)]
/-- pieces that are right: what rs asks of them -/
theorem rs_right {k n t s : Int} {m : Nat} {D : List (List Nat)} {ps : List (Int × Sl)} {Dd : Nat → List Nat} {pn : Nat} {w : World} (hd : PDat w ps Dd) (hn : pn = ps.length) (h : dAll k (pidx ps) (fun i => cpE k n t s m D (pidx ps i) (Dd i)) pn = 0) :
    chkAll k t (pidx ps) (fun i => if ((plen' ps i : Nat) : Int) = (plen k.toNat s.toNat : Nat) then 0 else 10) pn = 0 ∧ k ≤ (pn : Int) ∧ ∀ i, i < pn → (Dd i).length = plen k.toNat s.toNat ∧ plen' ps i = plen k.toNat s.toNat := by
  obtain ⟨h1, h2⟩ := dAll_zero h
  have h3 : ∀ i, i < pn → (Dd i).length = plen k.toNat s.toNat ∧ plen' ps i = plen k.toNat s.toNat := fun i hi => by
    obtain ⟨_, _, _, _, e, _⟩ := cp_zero (dTo_all h1 i hi).1
    have e2 := (hd i (by omega)).1.len
    rw [plen_at] at e2
    exact ⟨e, by omega⟩
  refine ⟨chk_of (fun i hi => ?_) h2, h2, h3⟩
  obtain ⟨g1, g2⟩ := dTo_all h1 i hi
  obtain ⟨_, e1, e2, _, _, _⟩ := cp_zero g1
  exact ⟨e1, e2, g2, if_pos (by rw [(h3 i hi).2])⟩

theorem wpList_load_wantA {P : Program} {ops : Array Oper} {rest : List Oper} {op : Oper} {a : Act} {w : World} {Q : Exit → Act → World → Prop} (hw : Region.wanted op (yielded ops a.tmps) = true) (ty : TypeId) (x : Operand) (ho : op.op = .load ty x)
    (b o : Nat) (hx : a.eval x = .pointer (some ⟨b, o, none⟩)) (cs : List Value) (d : TypeDesc) (hc : w.rangeAt b o cs)
    (hu : P.underlying ty = some d) (hd : d.isRow = true) (hi : (P.info? ty).map (·.size) = some cs.length)
    (h : wpList P ops Q rest (a.put op.dst (.agg cs.toArray)) w) : wpList P ops Q (op :: rest) a w :=
  BigFrame.wpList_want hw fun _ hK => wp_load_mid ty x ho b o hx cs d hc hu hd hi (hK _ _ h)
theorem man_range4A {w : World} {b : Nat} {k n t s : Int} {od : List Nat} {v : Value} (h : ManAt w b k n t s od v) : w.rangeAt b 4 (u8s od) := fun j u hj => by
  have h1 := range_of_heapI h (4 + j) u (by
    unfold mcells
    rw [List.append_assoc, List.getElem?_append_right (by simp), List.getElem?_append_left (by simp; exact (List.getElem?_eq_some_iff.1 hj).1)]
    simpa using hj)
  rwa [Nat.zero_add] at h1
/-- the object that pieces determine -/
def objL (k s : Int) (ps : List (Int × Sl)) (Dd : Nat → List Nat) : List Nat := joinL ((List.range k.toNat).map Dd) (places ps k.toNat) (plen k.toNat s.toNat) k.toNat s.toNat
/-- the error of Assemble -/
def asmE (k n t s : Int) (m : Nat) (od : List Nat) (D : List (List Nat)) (ps : List (Int × Sl)) (Dd : Nat → List Nat) (pn : Nat) : Int :=
  if manB k n t s m = true then
    (if dAll k (pidx ps) (fun i => cpE k n t s m D (pidx ps i) (Dd i)) pn = 0 then (if dig shaRound shaStart (objL k s ps Dd) = od then 0 else 20) else dAll k (pidx ps) (fun i => cpE k n t s m D (pidx ps i) (Dd i)) pn)
  else 2
/-- .. and its object -/
def asmL (k n t s : Int) (m : Nat) (od : List Nat) (D : List (List Nat)) (ps : List (Int × Sl)) (Dd : Nat → List Nat) (pn : Nat) : List Nat :=
  if asmE k n t s m od D ps Dd pn = 0 then objL k s ps Dd else []
theorem objL_length (k s : Int) (ps : List (Int × Sl)) (Dd : Nat → List Nat) : (objL k s ps Dd).length = s.toNat := by simp [objL, joinL]
theorem objL_lt {k s : Int} {ps : List (Int × Sl)} {Dd : Nat → List Nat} (h : ∀ i j, i < k.toNat → (Dd i).getD j 0 < 256) : ∀ y ∈ objL k s ps Dd, y < 256 := fun y hy => by
  obtain ⟨z, _, rfl⟩ := List.mem_map.1 hy
  exact joinF_lt (fun i j => by
    by_cases hi : i < k.toNat
    · rw [rmap_getD _ _ _ hi]
      exact h i j hi
    · rw [List.getD_eq_getElem?_getD (l := List.map _ _), List.getElem?_eq_none (by simp; omega)]
      show (0 : Nat) < 256
      omega)
/-- bytes and an error: the bytes lie where they may be read -/
def AsmRes (x : Int) (L : List Nat) (e : Ending) (w' : World) : Prop := ∃ ra rc, e = .returned (.tuple #[.slice ra L.length rc, .int .i64 x]) ∧ Bs w' (.slice ra L.length rc) L ∧ L.length ≤ rc ∧ (ra = none → rc = 0)
theorem asmRes_none (x : Int) (w : World) : AsmRes x [] (.returned (.tuple #[.slice none 0 0, .int .i64 x])) w := ⟨_, _, rfl, bs_nil _, Nat.le_refl _, fun _ => rfl⟩
theorem asmRes_some {O : List Nat} {ob sz : Nat} {w' : World} (hl : O.length = sz) (h : Bs w' (.slice (some ⟨ob, 0, none⟩) sz sz) O) : AsmRes 0 O (.returned (.tuple #[.slice (some ⟨ob, 0, none⟩) sz sz, .int .i64 0])) w' := by
  subst hl
  exact ⟨_, _, rfl, h, Nat.le_refl _, fun h => by cases h⟩
theorem fld_belowA {w w' : World} {fb : Nat} (h : Fld w fb) (k : Below w.heap.size w w') : Fld w' fb := h.elim (fun h => .inl ((k.block _ (lt_of_heap h)).trans h)) (fun h => .inr ((k.block _ (lt_of_heap h)).trans h))

set_option maxRecDepth 100000 in
set_option maxHeartbeats 4000000 in
theorem asm_any (fb : Nat) (w : World) (V : Vars w shaRound shaStart) (k n t s : Int) (od : List Nat) (a : Option Addr) (m c : Nat) (D : List (List Nat)) (ho : od.length = 32) (hD : Dgs w a m c D) (pa : Option Addr) (pn pc : Nat) (ps : List (Int × Sl)) (Dd : Nat → List Nat) (hd : PDat w ps Dd) (hpn : pn ≤ 100000) (hpc : pn ≤ pc) (hF : Fld w fb) (hlo : 3 ≤ fb) (hH : Held fb w (.slice pa pn pc) ps Dd) :
    Calls Tryz.prog 80 #[.pointer (some ⟨fb, 0, none⟩), .agg (mcells k n t s od (.slice a m c)).toArray, .slice pa pn pc] w fun e w' => AsmRes (asmE k n t s m od D ps Dd pn) (asmL k n t s m od D ps Dd pn) e w' ∧ Fld w' fb ∧ Kept fb w w' := by
  obtain ⟨w0, hw0⟩ : ∃ y, y = w.alloc (.cells (mcells k n t s od (.slice a m c)).toArray 62) := ⟨_, rfl⟩
  have HB0 := hid (show Below w.heap.size w w0 from by rw [hw0]; exact (Below.refl _ _).alloc (Nat.le_refl _) _)
  have HM := hid (show ManAt w0 w.heap.size k n t s od (.slice a m c) from by rw [hw0]; exact heap_new _ _)
  have HIF := hid (show (Tryz.prog.info? 62).map (·.size) = some (mcells k n t s od (.slice a m c)).length from by rw [mcells_length _ _ _ _ _ _ ho]; kernel_rfl)
  have HCM := hid (fun wx => CheckManifest_any k n t s od a m c ho wx)
  have HCK := hid (fun (wx : World) (b : Below w.heap.size w wx) => ckp_any wx (V.below b) k n t s od a m c D ho (hD.below b) pa pn pc ps Dd (hH.now.1.below b) (hd.below b) hpn)
  have HRA := hid (range_of_heapI HM.out)
  have hfl := hF.lt
  have HO := hid ho
  have HV := hid V
  have HPD := hid hd
  have HFF := hid hF
  have HH := hid hH
  have HN := hid hH.len
  clear ho V hD hd hF hH
  cases hv : manB k n t s m with
  | false => as_aux_lemma =>
    have HR1 := hid (show asmE k n t s m od D ps Dd pn = 2 from by unfold asmE; rw [hv]; rfl)
    have HR2 := hid (show asmL k n t s m od D ps Dd pn = [] from by unfold asmL; rw [HR1.out]; rfl)
    have hme : manE k n t s m = 2 := by unfold manE; rw [hv]; rfl
    rw [hme] at HCM
    clear hme hv HCK
    go_enter Tryz.func80, Tryz.ntmps80
    go_upto_region 1 with fail
    change Code.wp _ _ _ _ (w.alloc (.cells (mcells k n t s od (.slice a m c)).toArray 62))
    rw [← hw0]
    clear hw0
    go_wp2_with (refine wpList_load_mid (by rfl) 62 (.tmp 4) (by rfl) w.heap.size 0 (by rfl) (mcells k n t s od (.slice a m c)) _ HRA.out Tryz.underlying62 rfl HIF.out ?_)
    refine (HCM.out w0).mono ?_
    rintro e w3 ⟨rfl, hb3⟩
    have HB3 := hid (HB0.out.trans (hb3.mono HB0.out.size))
    clear hb3
    go_wp2
    go_ret2
    exact ⟨by rw [HR1.out, HR2.out]; exact asmRes_none _ _, fld_belowA HFF.out HB3.out, Kept.of_below HB3.out⟩
  | true =>
    have hme : manE k n t s m = 0 := by unfold manE; rw [hv]; rfl
    rw [hme] at HCM
    have hnum : 1 ≤ k ∧ k ≤ n ∧ n ≤ t ∧ t ≤ 255 ∧ 0 ≤ s ∧ s ≤ 8192 := by
      have hok := hv
      unfold manB vnB vcB at hok
      simp only [Bool.and_eq_true, decide_eq_true_eq] at hok
      omega
    have HU := hid (show asmE k n t s m od D ps Dd pn = (if dAll k (pidx ps) (fun i => cpE k n t s m D (pidx ps i) (Dd i)) pn = 0 then (if dig shaRound shaStart (objL k s ps Dd) = od then 0 else 20) else dAll k (pidx ps) (fun i => cpE k n t s m D (pidx ps i) (Dd i)) pn) from by unfold asmE; rw [if_pos hv])
    clear hme hv
    by_cases hda : dAll k (pidx ps) (fun i => cpE k n t s m D (pidx ps i) (Dd i)) pn = 0
    case neg => as_aux_lemma =>
      have HR1 := hid (show asmE k n t s m od D ps Dd pn = dAll k (pidx ps) (fun i => cpE k n t s m D (pidx ps i) (Dd i)) pn from by rw [HU.out, if_neg hda])
      have HR2 := hid (show asmL k n t s m od D ps Dd pn = [] from by unfold asmL; rw [HR1.out, if_neg hda])
      have b1 : (dAll k (pidx ps) (fun i => cpE k n t s m D (pidx ps i) (Dd i)) pn != 0) = true := by simpa using hda
      clear HU hnum hda
      generalize dAll k (pidx ps) (fun i => cpE k n t s m D (pidx ps i) (Dd i)) pn = E at HR1 b1 HCK
      go_enter Tryz.func80, Tryz.ntmps80
      go_upto_region 1 with fail
      change Code.wp _ _ _ _ (w.alloc (.cells (mcells k n t s od (.slice a m c)).toArray 62))
      rw [← hw0]
      clear hw0
      go_wp2_with (refine wpList_load_mid (by rfl) 62 (.tmp 4) (by rfl) w.heap.size 0 (by rfl) (mcells k n t s od (.slice a m c)) _ HRA.out Tryz.underlying62 rfl HIF.out ?_)
      refine (HCM.out w0).mono ?_
      rintro e w3 ⟨rfl, hb3⟩
      have HB3 := hid (HB0.out.trans (hb3.mono HB0.out.size))
      have HR3 := hid (range_below HRA.out hb3)
      clear hb3
      go_wp2_with (refine wpList_load_mid (by rfl) 62 (.tmp 4) (by rfl) w.heap.size 0 (by rfl) (mcells k n t s od (.slice a m c)) _ HR3.out Tryz.underlying62 rfl HIF.out ?_)
      refine (HCK.out w3 HB3.out).mono ?_
      rintro e w4 ⟨rfl, hb4⟩
      have HB4 := hid (HB3.out.trans (hb4.mono HB3.out.size))
      clear hb4
      go_wp2
      go_ret2
      exact ⟨by rw [HR1.out, HR2.out]; exact asmRes_none _ _, fld_belowA HFF.out HB4.out, Kept.of_below HB4.out⟩
    case pos =>
      obtain ⟨hz, hkp, hlen⟩ := rs_right (t := t) HPD.out HN.out hda
      rw [hda] at HCK
      have HDC := hid (fun (wx : World) (b : Below w.heap.size w wx) => Decode_ok fb k.toNat t.toNat s.toNat pa pn pc ps Dd (by omega) (by omega) (by omega) (by omega) hpn hpc wx (fld_belowA HFF.out b) (HH.out.step (Kept.of_below b)) (by rw [show ((k.toNat : Nat) : Int) = k from by omega, show ((t.toNat : Nat) : Int) = t from by omega]; exact hz))
      rw [show ((k.toNat : Nat) : Int) = k from by omega, show ((t.toNat : Nat) : Int) = t from by omega, show ((s.toNat : Nat) : Int) = s from by omega] at HDC
      have hlt : ∀ y ∈ objL k s ps Dd, y < 256 := objL_lt fun i j hi => (HH.out.now.2 i (by have := HN.out; omega)).lt j
      have HLT := hid hlt
      have HUE := hid (show asmE k n t s m od D ps Dd pn = (if dig shaRound shaStart (objL k s ps Dd) = od then 0 else 20) from by rw [HU.out, if_pos hda])
      have HOL := hid (objL_length k s ps Dd)
      obtain ⟨O, hO⟩ : ∃ O, O = objL k s ps Dd := ⟨_, rfl⟩
      have HOO := hid hO
      have HDC2 := hid (fun (wx : World) (b : Below w.heap.size w wx) => (HDC.out wx b).mono (fun e w' (h : ∃ ob, wx.heap.size ≤ ob ∧ e = .returned (.tuple #[.slice (some ⟨ob, 0, none⟩) s.toNat s.toNat, .int .i64 0]) ∧ Own w' ob (objL k s ps Dd) ∧ Built w' fb ∧ Kept fb wx w') => (show ∃ ob, wx.heap.size ≤ ob ∧ e = .returned (.tuple #[.slice (some ⟨ob, 0, none⟩) s.toNat s.toNat, .int .i64 0]) ∧ Bs w' (.slice (some ⟨ob, 0, none⟩) s.toNat s.toNat) (objL k s ps Dd) ∧ Built w' fb ∧ Kept fb wx w' from by
        obtain ⟨ob, h1, h2, h3, h4, h5⟩ := h
        have h6 := h3.bs HLT.out s.toNat
        rw [HOL.out] at h6
        exact ⟨ob, h1, h2, h6, h4, h5⟩)))
      have hob : s.toNat ≤ 8192 := by omega
      rw [← hO] at HUE HLT HOL HDC2
      have hY32 : (dig shaRound shaStart O).length = 32 := dig_length _ _ _
      obtain ⟨Y, hY⟩ : ∃ Y, Y = dig shaRound shaStart O := ⟨_, rfl⟩
      have HSH := hid (fun (wx : World) (V : Vars wx shaRound shaStart) (ob : Nat) (h : Bs wx (.slice (some ⟨ob, 0, none⟩) s.toNat s.toNat) O) => SHA256_any (some ⟨ob, 0, none⟩) s.toNat s.toNat shaRound shaStart O wx V h (Nat.le_refl _) (by omega))
      rw [← hY] at HSH hY32 HUE
      have HEQ := hid (fun wx => eql_any Y od hY32 HO.out wx)
      have HASL := hid (show asmL k n t s m od D ps Dd pn = if asmE k n t s m od D ps Dd pn = 0 then O else [] from by unfold asmL; rw [hO])
      have HIFZ := hid (show (Tryz.prog.info? 23).map (·.size) = some (u8s od).length from by simp only [u8s, List.length_map, HO.out]; kernel_rfl)
      have hq0 : ∀ (q : Bool), q = decide (Y = od) → asmE k n t s m od D ps Dd pn = if q then 0 else 20 := by
        rintro q rfl
        rw [HUE.out]
        by_cases h : Y = od
        · rw [if_pos h, decide_eq_true h]; rfl
        · rw [if_neg h, decide_eq_false h]; rfl
      generalize hq : decide (Y = od) = q at *
      have HQ := hid (hq0 q rfl)
      clear hq0 hq hY hY32 hO HUE HDC hz hkp hlen hda HU hlt
      cases q
      all_goals as_aux_lemma =>
        go_enter Tryz.func80, Tryz.ntmps80
        go_upto_region 1 with fail
        change Code.wp _ _ _ _ (w.alloc (.cells (mcells k n t s od (.slice a m c)).toArray 62))
        rw [← hw0]
        clear hw0
        go_wp2_with (refine wpList_load_mid (by rfl) 62 (.tmp 4) (by rfl) w.heap.size 0 (by rfl) (mcells k n t s od (.slice a m c)) _ HRA.out Tryz.underlying62 rfl HIF.out ?_)
        refine (HCM.out w0).mono ?_
        rintro e w3 ⟨rfl, hb3⟩
        have HB3 := hid (HB0.out.trans (hb3.mono HB0.out.size))
        have HR3 := hid (range_below HRA.out hb3)
        have HM3 := hid ((hb3.block _ (lt_of_heap HM.out)).trans HM.out)
        clear hb3
        go_wp2_with (refine wpList_load_mid (by rfl) 62 (.tmp 4) (by rfl) w.heap.size 0 (by rfl) (mcells k n t s od (.slice a m c)) _ HR3.out Tryz.underlying62 rfl HIF.out ?_)
        refine (HCK.out w3 HB3.out).mono ?_
        rintro e w4 ⟨rfl, hb4⟩
        have HB4 := hid (HB3.out.trans (hb4.mono HB3.out.size))
        have HM4 := hid (show ManAt w4 w.heap.size k n t s od (.slice a m c) from (hb4.block _ (lt_of_heap HM3.out)).trans HM3.out)
        clear hb4
        obtain ⟨c0, -, c2, c3, -⟩ := HM4.out.c HO.out
        go_wp2_with fail
        refine (HDC2.out w4 HB4.out).mono ?_
        rintro e w5 ⟨ob, hob5, rfl, hbs5, hbu5, hk5⟩
        have HK5 := hid ((Kept.of_below (b := fb) HB4.out).trans hk5)
        have HBS5 := hid hbs5
        have HBU := hid (show Fld w5 fb from .inr hbu5)
        have HR5 := hid (man_range4A (show ManAt w5 w.heap.size k n t s od (.slice a m c) from (hk5.block _ (lt_of_heap HM4.out) (by omega)).trans HM4.out))
        have HV5 := hid (HV.out.kept HK5.out hlo)
        have hne : Nonempty (Cls fun w' => Below w5.heap.size w5 w') := ⟨⟨w5, Below.refl _ _⟩⟩
        have HSQ := hid (fun (p : Cls fun w' => Below w5.heap.size w5 w') => HSH.out p.w (HV5.out.below p.h) ob (HBS5.out.below p.h))
        have HRQ := hid (fun (p : Cls fun w' => Below w5.heap.size w5 w') => range_below HR5.out p.h)
        have e1 := fun wx => HEQ.out wx
        clear hk5 hbs5 hbu5 c0 c2 c3
        go_upto_region 10 with fail
        refine wp_region_class_lit (G := fun w' => Below w5.heap.size w5 w') (by kernel_rfl) (by kernel_rfl) (bel_drewN (Below.refl _ _) 1) ?_
        iterate 6 (go_big_quiet_step ((go_at_call 60; exact Calls.cls (HSQ.out _))))
        refine wpQuiet_load_clsW (by rfl) 23 (.tmp 42) (by rfl) w.heap.size 4 (by rfl) (u8s od) _ HRQ.out Tryz.underlying23 rfl HIFZ.out ?_
        rintro _ rfl
        try simp only [Act.put, List.setIfInBounds_toArray, List.set_cons_zero, List.set_cons_succ]
        repeat (go_big_quiet_step ((go_at_call 60; exact Calls.cls (HSQ.out _))))
        refine wpQuiet_nil ?_
        rintro _ ⟨⟨wp, hwp⟩, rfl⟩
        have HBP := hid hwp
        have HFP := hid (fld_belowA HBU.out hwp)
        have HKP := hid (HK5.out.trans (Kept.of_below hwp))
        have HBSP := hid (HBS5.out.below hwp)
        clear hwp e1 HSQ HRQ hne
        go_wp2
        go_ret2
        refine ⟨?_, HFP.out, HKP.out⟩
        rw [HASL.out, HQ.out]
        first
          | exact asmRes_none _ _
          | exact asmRes_some HOL.out HBSP.out
end Go.Proofs.YtjgiiciniplbnaaGreatDoor

namespace Go.Proofs.YtjgiiciniplbnaaGreatDoor
open Go Go.RowKit
set_option linter.unusedVariables false
/-- a piece and an error -/
def PieceRes (i : Int) (m : Nat) (x : Int) (L : List Nat) (e : Ending) (w' : World) : Prop := ∃ ra rc, e = .returned (.tuple #[.agg #[.int .i64 i, .slice ra m rc], .int .i64 x]) ∧ Bs w' (.slice ra m rc) L
/-- a piece whose bytes lie in a block -/
def PieceResN (B : Nat) (i : Int) (m : Nat) (L : List Nat) (e : Ending) (w' : World) : Prop := ∃ oc, B ≤ oc ∧ e = .returned (.tuple #[.agg #[.int .i64 i, .slice (some ⟨oc, 0, none⟩) m m], .int .i64 0]) ∧ Bs w' (.slice (some ⟨oc, 0, none⟩) m m) L
theorem PieceResN.res {B : Nat} {i : Int} {m : Nat} {L : List Nat} {e : Ending} {w' : World} (h : PieceResN B i m L e w') : PieceRes i m 0 L e w' := by
  obtain ⟨oc, _, h1, h2⟩ := h
  exact ⟨_, _, h1, h2⟩
theorem pieceRes_none (x : Int) (w : World) : PieceRes 0 0 x [] (.returned (.tuple #[.agg #[.int .i64 0, .slice none 0 0], .int .i64 x])) w := ⟨_, _, rfl, bs_nil _⟩
theorem piece_free {w w' : World} {b B : Nat} {x y : Value} {t : TypeId} (h : w.heap[b]? = some (.cells #[x, y] t (0, 0))) (hb : Below B w w') (hB : b < B) : w'.cell? ⟨b, 0, none⟩ = some x ∧ w'.cell? ⟨b, 1, none⟩ = some y ∧ w'.frozen? ⟨b, 0, none⟩ = false ∧ w'.frozen? ⟨b, 1, none⟩ = false := by
  have h2 := (hb.block b hB).trans h
  exact ⟨cell_of_heap h2 0, cell_of_heap h2 1, free_of_heap h2 0, free_of_heap h2 1⟩
theorem Bs.set_offR {w : World} {v : Value} {l : List Nat} (h : Bs w v l) {b : Nat} (ho : Off b v) (i : Nat) (u : Value) : Bs (w.setCell ⟨b, i, none⟩ u) v l :=
  h.kept (Kept.setCell (Kept.refl b w) rfl u) ho
theorem alike_fit {k t : Int} {ps : List (Int × Sl)} {n : Nat} (h : Fit k t (pidx ps) (alikeE ps) n) : ∀ i, i < n → plen' ps i = plen' ps 0 ∧ plen' ps i ≤ 8192 := fun i hi => by
  have h5 := h.ok i hi
  unfold alikeE alikeL at h5
  by_cases e : 8192 < plen' ps i
  · rw [if_pos e] at h5; omega
  · rw [if_neg e] at h5
    by_cases e2 : plen' ps i = plen' ps 0
    · exact ⟨e2, by omega⟩
    · rw [if_neg e2] at h5; omega
theorem mixL_bs {w : World} {ob : Nat} {D : List (List Nat)} {ws : List Nat} {L k : Nat} (h : Own w ob (mixL D ws L k)) (hw : ∀ i, ws.getD i 0 < 256) : Bs w (.slice (some ⟨ob, 0, none⟩) L L) (mixL D ws L k) := by
  have h5 := h.bs (mixL_lt D ws L k hw) L
  rwa [mixL_length] at h5
set_option maxRecDepth 100000 in
set_option maxHeartbeats 4000000 in
theorem Rebuild_okN (fb k t x : Nat) (a : Option Addr) (n c : Nat) (ps : List (Int × Sl)) (D : Nat → List Nat) (h1 : 1 ≤ k) (h2 : k ≤ t) (h3 : t ≤ 255) (h4 : x < t) (hn : n ≤ 100000) (hnc : n ≤ c) (w : World) (hF : Fld w fb) (hH : Held fb w (.slice a n c) ps D)
    (hz : chkAll k t (pidx ps) (alikeE ps) n = 0) :
    Calls Tryz.prog 111 #[.pointer (some ⟨fb, 0, none⟩), .int .i64 k, .int .i64 t, .slice a n c, .int .i64 x] w fun e w' => PieceResN w.heap.size x (plen' ps 0) (mixL ((List.range k).map D) (wts (places ps k) (scales (places ps k)) x) (plen' ps 0) k) e w' ∧ Built w' fb ∧ Kept fb w w' := by
  have hnot : ∀ (x : Bool) (w : World), (Op.unary .not (.bool x)).run Tryz.prog w = .ok (.bool (!x)) w := fun _ _ => rfl
  have hfit := fit_of hz
  have hkn : k ≤ n := by have := hfit.few; omega
  have hnp := hH.len
  obtain ⟨b, o, rfl⟩ : ∃ b o, a = some ⟨b, o, none⟩ := by
    obtain ⟨a', c', e1, e3⟩ := hH.now.1
    obtain ⟨b, o, ha, _⟩ := e3 (by intro e; rw [e] at hnp; simp at hnp; omega)
    simp at e1
    exact ⟨b, o, e1.1.trans ha⟩
  have b1 : decide ((x : Int) < 0) = false := by simp
  have b2 : decide (t ≤ x) = false := by simp; omega
  have hc := checkAlike_any (k : Int) (t : Int) (some ⟨b, o, none⟩) n c ps
  rw [hz] at hc
  have HC := hid hc
  have hal := alike_fit hfit
  have HLENS := hid (fun i h => (hal i h).1)
  have hLb := (hal 0 (by omega)).2
  have HFIT := hid hfit
  have HN := hid hnp
  have HF := hid hF
  have HH := hid hH
  have hfb0 := hF.lt
  clear hF hH hz hc hnp hal hfit
  generalize hL : plen' ps 0 = L at *
  clear hL
  go_enter Tryz.func111, Tryz.ntmps111
  go_wp2_with fail
  refine (valid_yes k t (by omega) (by omega) (by omega) _).mono ?_
  rintro e w' ⟨rfl, rfl⟩
  have hb1 : Below w.heap.size w (w.alloc (Obj.cells #[.int .i64 0, .slice none 0 0] 68)) := (Below.refl _ _).alloc (Nat.le_refl _) _
  have HX := hid (heap_new w (Obj.cells #[.int .i64 0, .slice none 0 0] 68))
  go_wp2_with fail
  refine (HC.out _ (by omega) (HH.out.now.1.below hb1) hn).mono ?_
  rintro e w2 ⟨rfl, hb2⟩
  have hb12 : Below w.heap.size w w2 := hb1.trans (hb2.mono (by simp))
  have HB12 := hid hb12
  have hF2 : Fld w2 fb := HF.out.elim (fun h => .inl ((hb12.block _ hfb0).trans h)) (fun h => .inr ((hb12.block _ hfb0).trans h))
  have HX2 := hid ((hb2.block w.heap.size (by simp)).trans HX.out)
  clear hb1 hb2 hb12
  go_wp2_with fail
  refine (build_any fb _ hF2).mono ?_
  rintro e w3 ⟨rfl, hB3, hk3⟩
  have hK3 : Kept fb w w3 := (Kept.of_below HB12.out).trans hk3
  have HX3 := hid ((hk3.block w.heap.size (lt_of_heap HX2.out) (by omega)).trans HX2.out)
  have HK3 := hid hK3
  have HH3 := hid (HH.out.step hK3)
  have HB3 := hid hB3
  clear hK3 hk3 hF2 hB3
  have hps3 := HH3.out.now.1.take hkn
  have HPS3 := hid hps3
  have hkp : k = (ps.take k).length := by rw [List.length_take, ← HN.out, Nat.min_eq_left hkn]
  have HKP := hid hkp
  have hcc : k ≤ c := by omega
  clear hps3 hkp
  have hpl := places_length ps k
  have HPL := hid hpl
  have hnum : ∀ i, (h : i < (ps.take k).length) → (ps.take k)[i].1 = (((places ps k).getD i 0 : Nat) : Int) := fun i h => by
    rw [← HKP.out] at h
    have h5 := HFIT.out.lo i (by omega)
    rw [List.getElem_take, pidx_at, places_getD ps k i h]
    omega
  have HNUM := hid hnum
  have HLT := hid (places_lt (k := k) HFIT.out (by omega))
  have HND := hid (places_nodup (k := k) HFIT.out)
  clear hnum hpl
  go_wp2_with fail
  refine (newSource_n fb b o c k (ps.take k) (places ps k) HKP.out _ HB3.out HPS3.out (by omega) (by omega) (by rw [HPL.out, ← HKP.out]) HNUM.out HLT.out HND.out).mono ?_
  rintro e w4 ⟨pb, sb, hpb, hsb, rfl, hopb, hosb, hb4⟩
  have hkk4 : Kept fb w w4 := HK3.out.trans (Kept.of_below hb4)
  have hdat : ∀ i, (h : i < (ps.take k).length) → Bs w4 (.slice (ps.take k)[i].2.1 (ps.take k)[i].2.2.1 (ps.take k)[i].2.2.2) (((List.range k).map D).getD i []) ∧ (((List.range k).map D).getD i []).length = L := fun i h => by
    have h' := h
    rw [← HKP.out] at h'
    have hi2 : i < ps.length := by rw [← HN.out]; omega
    rw [rmap_getD _ _ _ h']
    simp only [List.getElem_take]
    exact ⟨(HH.out w4 hkk4).2 i hi2, by rw [HH.out.data i hi2]; exact HLENS.out i (by omega)⟩
  have HDAT := hid hdat
  have hpl : Bs w4 (.slice (some ⟨pb, 0, none⟩) k k) (places ps k) := by
    have h5 := hopb.bs HLT.out k
    rwa [HPL.out] at h5
  have hsl : Bs w4 (.slice (some ⟨sb, 0, none⟩) k k) (scales (places ps k)) := by
    have h5 := hosb.bs (scales_lt _) k
    rwa [scales_length, HPL.out] at h5
  have HX4 := hid ((hb4.block w.heap.size (lt_of_heap HX3.out)).trans HX3.out)
  have HB4 := hid (HB3.out.below hb4 HB3.out.lt)
  have HK4 := hid hkk4
  clear hopb hosb hdat hb4 hkk4
  go_wp2_with fail
  refine (piece_any fb b o c pb 0 k sb 0 k k L x (ps.take k) (places ps k) ((List.range k).map D) _ HB4.out ((HH.out w4 HK4.out).1.take hkn) (by omega) (by omega) HKP.out HPL.out.symm HDAT.out hpl hsl (by omega) (by omega)).mono ?_
  rintro e w6 ⟨oc, hoc, rfl, ho, hb6⟩
  have hs4 := HK4.out.size
  obtain ⟨d0, d1, f0, f1⟩ := piece_free HX4.out hb6 (lt_of_heap HX4.out)
  have hox : oc ≠ w.heap.size := by have := lt_of_heap HX4.out; omega
  have hbs := mixL_bs ho (fun i => getD_lt (wts_lt _ _ _) i)
  have HBS := hid (hbs.set_offR (b := w.heap.size) (show oc ≠ w.heap.size from hox) 0 (.int .i64 x))
  have HB2 := hid (HBS.out.set_offR (b := w.heap.size) (show oc ≠ w.heap.size from hox) 1 (.slice (some ⟨oc, 0, none⟩) L L))
  have HB6 := hid (HB4.out.below hb6 HB4.out.lt)
  have HK6 := hid (HK4.out.trans (Kept.of_below hb6))
  clear hbs hb6 hpl hsl
  go_wp2
  exact bodyPost_ret (v := .tuple #[.agg #[.int .i64 x, .slice (some ⟨oc, 0, none⟩) L L], .int .i64 0]) (by simp [results, Tryz.results111, go_sem, d0, d1]) rfl ⟨⟨_, by omega, rfl, HB2.out⟩, (HB6.out.setCell (by simp; omega) _).setCell (by simp; omega) _, (HK6.out.setNew (by simp) _).setNew (by simp) _⟩
end Go.Proofs.YtjgiiciniplbnaaGreatDoor

namespace Go.Proofs.YtjgiiciniplbnaaGreatDoor
open Go Go.RowKit
set_option linter.unusedVariables false

/-- the piece that others determine -/
def pieceL (k : Int) (ps : List (Int × Sl)) (Dd : Nat → List Nat) (I : Int) : List Nat := mixL ((List.range k.toNat).map Dd) (wts (places ps k.toNat) (scales (places ps k.toNat)) I.toNat) (plen' ps 0) k.toNat
/-- the error of Regenerate -/
def regE (k n t s : Int) (m : Nat) (D : List (List Nat)) (ps : List (Int × Sl)) (Dd : Nat → List Nat) (pn : Nat) (I : Int) : Int :=
  if manB k n t s m = true then
    (if I < 0 ∨ t ≤ I then 2 else if dAll k (pidx ps) (fun i => cpE k n t s m D (pidx ps i) (Dd i)) pn = 0 then (if dig shaRound shaStart ([hi8 I, lo8 I] ++ pieceL k ps Dd I) = D.getD I.toNat [] then 0 else 20) else dAll k (pidx ps) (fun i => cpE k n t s m D (pidx ps i) (Dd i)) pn)
  else 2
def regI (k n t s : Int) (m : Nat) (D : List (List Nat)) (ps : List (Int × Sl)) (Dd : Nat → List Nat) (pn : Nat) (I : Int) : Int := if regE k n t s m D ps Dd pn I = 0 then I else 0
def regL (k n t s : Int) (m : Nat) (D : List (List Nat)) (ps : List (Int × Sl)) (Dd : Nat → List Nat) (pn : Nat) (I : Int) : List Nat := if regE k n t s m D ps Dd pn I = 0 then pieceL k ps Dd I else []
/-- a piece and an error -/
def RgnRes (x i : Int) (L : List Nat) (e : Ending) (w' : World) : Prop := ∃ ra rc, e = .returned (.tuple #[.agg #[.int .i64 i, .slice ra L.length rc], .int .i64 x]) ∧ Bs w' (.slice ra L.length rc) L ∧ L.length ≤ rc ∧ (ra = none → rc = 0)
theorem rgnRes_none (x : Int) (w : World) : RgnRes x 0 [] (.returned (.tuple #[.agg #[.int .i64 0, .slice none 0 0], .int .i64 x])) w := ⟨_, _, rfl, bs_nil _, Nat.le_refl _, fun _ => rfl⟩
theorem rgnRes_some {O : List Nat} {i : Int} {ob sz : Nat} {w' : World} (hl : O.length = sz) (h : Bs w' (.slice (some ⟨ob, 0, none⟩) sz sz) O) : RgnRes 0 i O (.returned (.tuple #[.agg #[.int .i64 i, .slice (some ⟨ob, 0, none⟩) sz sz], .int .i64 0])) w' := by
  subst hl
  exact ⟨_, _, rfl, h, Nat.le_refl _, fun h => by cases h⟩
theorem fld_setA {w : World} {fb q : Nat} (h : Fld w fb) (hne : fb ≠ q) (j : Nat) (u : Value) : Fld (w.setCell ⟨q, j, none⟩ u) fb :=
  h.elim (fun h => .inl ((heap_setCell_other w _ _ _ hne).trans h)) (fun h => .inr ((heap_setCell_other w _ _ _ hne).trans h))
theorem range_keptA {w w' : World} {fb b o : Nat} {cs : List Value} (h : w.rangeAt b o cs) (k : Kept fb w w') (hne : b ≠ fb) : w'.rangeAt b o cs := fun j v hj => by
  have h1 := h j v hj
  have hlt := World.block_lt_of_cell? _ _ h1
  exact (World.cell?_of_block (a := ⟨b, o + j, none⟩) (k.block b hlt hne)).trans h1
theorem piece_freeA {w : World} {b : Nat} {x y : Value} {t : TypeId} (h : w.heap[b]? = some (.cells #[x, y] t (0, 0))) : w.cell? ⟨b, 0, none⟩ = some x ∧ w.cell? ⟨b, 1, none⟩ = some y ∧ w.frozen? ⟨b, 0, none⟩ = false ∧ w.frozen? ⟨b, 1, none⟩ = false :=
  piece_free h (Below.refl w.heap.size w) (lt_of_heap h)

set_option maxRecDepth 100000 in
set_option maxHeartbeats 8000000 in
theorem rgn_any (fb : Nat) (w : World) (V : Vars w shaRound shaStart) (k n t s : Int) (od : List Nat) (a : Option Addr) (m c : Nat) (D : List (List Nat)) (ho : od.length = 32) (hD : Dgs w a m c D) (pa : Option Addr) (pn pc : Nat) (ps : List (Int × Sl)) (Dd : Nat → List Nat) (hd : PDat w ps Dd) (hpn : pn ≤ 100000) (hpc : pn ≤ pc) (hF : Fld w fb) (hlo : 3 ≤ fb) (hH : Held fb w (.slice pa pn pc) ps Dd) (hoffm : ∀ ad, a = some ad → ad.block ≠ fb) (I : Int) :
    Calls Tryz.prog 82 #[.pointer (some ⟨fb, 0, none⟩), .agg (mcells k n t s od (.slice a m c)).toArray, .slice pa pn pc, .int .i64 I] w fun e w' => RgnRes (regE k n t s m D ps Dd pn I) (regI k n t s m D ps Dd pn I) (regL k n t s m D ps Dd pn I) e w' ∧ Fld w' fb ∧ Kept fb w w' := by
  obtain ⟨w0, hw0⟩ : ∃ y, y = (w.alloc (.cells (mcells k n t s od (.slice a m c)).toArray 62)).alloc (.cells #[.int .i64 0, .slice none 0 0] 68) := ⟨_, rfl⟩
  have hs1 : (w.alloc (.cells (mcells k n t s od (.slice a m c)).toArray 62)).heap.size = w.heap.size + 1 := by simp
  have HB0 := hid (show Below w.heap.size w w0 from by rw [hw0]; exact ((Below.refl _ _).alloc (Nat.le_refl _) _).alloc (by simp) _)
  have HM := hid (show ManAt w0 w.heap.size k n t s od (.slice a m c) from by rw [hw0]; exact (heap_alloc_old _ _ (by simp)).trans (heap_new _ _))
  have HZ := hid (show w0.heap[w.heap.size + 1]? = some (.cells #[.int .i64 0, .slice none 0 0] 68 (0, 0)) from by rw [hw0, ← hs1]; exact heap_new _ _)
  have HIF := hid (show (Tryz.prog.info? 62).map (·.size) = some (mcells k n t s od (.slice a m c)).length from by rw [mcells_length _ _ _ _ _ _ ho]; kernel_rfl)
  have HCM := hid (fun wx => CheckManifest_any k n t s od a m c ho wx)
  have HCK := hid (fun (wx : World) (b : Below w.heap.size w wx) => ckp_any wx (V.below b) k n t s od a m c D ho (hD.below b) pa pn pc ps Dd (hH.now.1.below b) (hd.below b) hpn)
  have HRA := hid (range_of_heapI HM.out)
  have HO := hid ho
  have HV := hid V
  have HDD := hid hD
  have HPD := hid hd
  have hfl := hF.lt
  have HFF := hid hF
  have HH := hid hH
  have HN := hid hH.len
  clear hs1 ho V hD hd hF hH
  cases hv : manB k n t s m with
  | false => as_aux_lemma =>
    have HR1 := hid (show regE k n t s m D ps Dd pn I = 2 from by unfold regE; rw [hv]; rfl)
    have HR2 := hid (show regL k n t s m D ps Dd pn I = [] from by unfold regL; rw [HR1.out]; rfl)
    have HR3' := hid (show regI k n t s m D ps Dd pn I = 0 from by unfold regI; rw [HR1.out]; rfl)
    rw [show manE k n t s m = 2 from by unfold manE; rw [hv]; rfl] at HCM
    clear hv HCK
    go_enter Tryz.func82, Tryz.ntmps82
    go_upto_region 1 with fail
    change Code.wp _ _ _ _ ((w.alloc (.cells (mcells k n t s od (.slice a m c)).toArray 62)).alloc (.cells #[.int .i64 0, .slice none 0 0] 68))
    rw [← hw0]
    clear hw0
    go_wp2_with (refine wpList_load_mid (by rfl) 62 (.tmp 5) (by rfl) w.heap.size 0 (by rfl) (mcells k n t s od (.slice a m c)) _ HRA.out Tryz.underlying62 rfl HIF.out ?_)
    refine (HCM.out w0).mono ?_
    rintro e w3 ⟨rfl, hb3⟩
    have HB3 := hid (HB0.out.trans (hb3.mono HB0.out.size))
    have HR3 := hid (range_below HRA.out hb3)
    have HM3 := hid (show ManAt w3 w.heap.size k n t s od (.slice a m c) from (hb3.block _ (lt_of_heap HM.out)).trans HM.out)
    have HZ3 := hid ((hb3.block _ (lt_of_heap HZ.out)).trans HZ.out)
    clear hb3
    obtain ⟨c0, -, c2, c3, -⟩ := HM3.out.c HO.out
    obtain ⟨d0, d1, f0, f1⟩ := piece_freeA HZ3.out
    go_wp2
    exact bodyPost_ret (v := .tuple #[.agg #[.int .i64 0, .slice none 0 0], .int .i64 2]) (by simp [results, Tryz.results82, go_sem, d0, d1]) rfl ⟨by rw [HR1.out, HR3'.out, HR2.out]; exact rgnRes_none _ _, fld_belowA HFF.out ((HB3.out.setCell (p := ⟨w.heap.size + 1, 0, none⟩) (by simp) _).setCell (p := ⟨w.heap.size + 1, 1, none⟩) (by simp) _), Kept.of_below ((HB3.out.setCell (p := ⟨w.heap.size + 1, 0, none⟩) (by simp) _).setCell (p := ⟨w.heap.size + 1, 1, none⟩) (by simp) _)⟩
  | true =>
    rw [show manE k n t s m = 0 from by unfold manE; rw [hv]; rfl] at HCM
    have hnum : 1 ≤ k ∧ k ≤ n ∧ n ≤ t ∧ t ≤ 255 ∧ 0 ≤ s ∧ s ≤ 8192 ∧ (m : Int) = t := by
      have hok := hv
      unfold manB vnB vcB at hok
      simp only [Bool.and_eq_true, decide_eq_true_eq] at hok
      omega
    have HU := hid (show regE k n t s m D ps Dd pn I = (if I < 0 ∨ t ≤ I then 2 else if dAll k (pidx ps) (fun i => cpE k n t s m D (pidx ps i) (Dd i)) pn = 0 then (if dig shaRound shaStart ([hi8 I, lo8 I] ++ pieceL k ps Dd I) = D.getD I.toNat [] then 0 else 20) else dAll k (pidx ps) (fun i => cpE k n t s m D (pidx ps i) (Dd i)) pn) from by unfold regE; rw [if_pos hv])
    clear hv
    by_cases hI : I < 0 ∨ t ≤ I
    · have HR1 := hid (show regE k n t s m D ps Dd pn I = 2 from by rw [HU.out, if_pos hI])
      have HR2 := hid (show regL k n t s m D ps Dd pn I = [] from by unfold regL; rw [HR1.out]; rfl)
      have HR3' := hid (show regI k n t s m D ps Dd pn I = 0 from by unfold regI; rw [HR1.out]; rfl)
      clear HU HCK
      by_cases h0 : I < 0
      · as_aux_lemma =>
        clear hI
        go_enter Tryz.func82, Tryz.ntmps82
        go_upto_region 1 with fail
        change Code.wp _ _ _ _ ((w.alloc (.cells (mcells k n t s od (.slice a m c)).toArray 62)).alloc (.cells #[.int .i64 0, .slice none 0 0] 68))
        rw [← hw0]
        clear hw0
        go_wp2_with (refine wpList_load_mid (by rfl) 62 (.tmp 5) (by rfl) w.heap.size 0 (by rfl) (mcells k n t s od (.slice a m c)) _ HRA.out Tryz.underlying62 rfl HIF.out ?_)
        refine (HCM.out w0).mono ?_
        rintro e w3 ⟨rfl, hb3⟩
        have HB3 := hid (HB0.out.trans (hb3.mono HB0.out.size))
        have HR3 := hid (range_below HRA.out hb3)
        have HM3 := hid (show ManAt w3 w.heap.size k n t s od (.slice a m c) from (hb3.block _ (lt_of_heap HM.out)).trans HM.out)
        have HZ3 := hid ((hb3.block _ (lt_of_heap HZ.out)).trans HZ.out)
        clear hb3
        obtain ⟨c0, -, c2, c3, -⟩ := HM3.out.c HO.out
        obtain ⟨d0, d1, f0, f1⟩ := piece_freeA HZ3.out
        go_wp2
        exact bodyPost_ret (v := .tuple #[.agg #[.int .i64 0, .slice none 0 0], .int .i64 2]) (by simp [results, Tryz.results82, go_sem, d0, d1]) rfl ⟨by rw [HR1.out, HR3'.out, HR2.out]; exact rgnRes_none _ _, fld_belowA HFF.out ((HB3.out.setCell (p := ⟨w.heap.size + 1, 0, none⟩) (by simp) _).setCell (p := ⟨w.heap.size + 1, 1, none⟩) (by simp) _), Kept.of_below ((HB3.out.setCell (p := ⟨w.heap.size + 1, 0, none⟩) (by simp) _).setCell (p := ⟨w.heap.size + 1, 1, none⟩) (by simp) _)⟩
      · as_aux_lemma =>
        have h1 : t ≤ I := by omega
        clear hI
        go_enter Tryz.func82, Tryz.ntmps82
        go_upto_region 1 with fail
        change Code.wp _ _ _ _ ((w.alloc (.cells (mcells k n t s od (.slice a m c)).toArray 62)).alloc (.cells #[.int .i64 0, .slice none 0 0] 68))
        rw [← hw0]
        clear hw0
        go_wp2_with (refine wpList_load_mid (by rfl) 62 (.tmp 5) (by rfl) w.heap.size 0 (by rfl) (mcells k n t s od (.slice a m c)) _ HRA.out Tryz.underlying62 rfl HIF.out ?_)
        refine (HCM.out w0).mono ?_
        rintro e w3 ⟨rfl, hb3⟩
        have HB3 := hid (HB0.out.trans (hb3.mono HB0.out.size))
        have HR3 := hid (range_below HRA.out hb3)
        have HM3 := hid (show ManAt w3 w.heap.size k n t s od (.slice a m c) from (hb3.block _ (lt_of_heap HM.out)).trans HM.out)
        have HZ3 := hid ((hb3.block _ (lt_of_heap HZ.out)).trans HZ.out)
        clear hb3
        obtain ⟨c0, -, c2, c3, -⟩ := HM3.out.c HO.out
        obtain ⟨d0, d1, f0, f1⟩ := piece_freeA HZ3.out
        go_wp2
        exact bodyPost_ret (v := .tuple #[.agg #[.int .i64 0, .slice none 0 0], .int .i64 2]) (by simp [results, Tryz.results82, go_sem, d0, d1]) rfl ⟨by rw [HR1.out, HR3'.out, HR2.out]; exact rgnRes_none _ _, fld_belowA HFF.out ((HB3.out.setCell (p := ⟨w.heap.size + 1, 0, none⟩) (by simp) _).setCell (p := ⟨w.heap.size + 1, 1, none⟩) (by simp) _), Kept.of_below ((HB3.out.setCell (p := ⟨w.heap.size + 1, 0, none⟩) (by simp) _).setCell (p := ⟨w.heap.size + 1, 1, none⟩) (by simp) _)⟩
    have h0 : ¬ I < 0 := fun h => hI (.inl h)
    have h1 : ¬ t ≤ I := fun h => hI (.inr h)
    by_cases hda : dAll k (pidx ps) (fun i => cpE k n t s m D (pidx ps i) (Dd i)) pn = 0
    case neg => as_aux_lemma =>
      have HR1 := hid (show regE k n t s m D ps Dd pn I = dAll k (pidx ps) (fun i => cpE k n t s m D (pidx ps i) (Dd i)) pn from by rw [HU.out, if_neg hI, if_neg hda])
      have HR2 := hid (show regL k n t s m D ps Dd pn I = [] from by unfold regL; rw [HR1.out, if_neg hda])
      have HR3' := hid (show regI k n t s m D ps Dd pn I = 0 from by unfold regI; rw [HR1.out, if_neg hda])
      have b1 : (dAll k (pidx ps) (fun i => cpE k n t s m D (pidx ps i) (Dd i)) pn != 0) = true := by simpa using hda
      clear HU hda hI
      generalize dAll k (pidx ps) (fun i => cpE k n t s m D (pidx ps i) (Dd i)) pn = E at HR1 b1 HCK
      go_enter Tryz.func82, Tryz.ntmps82
      go_upto_region 1 with fail
      change Code.wp _ _ _ _ ((w.alloc (.cells (mcells k n t s od (.slice a m c)).toArray 62)).alloc (.cells #[.int .i64 0, .slice none 0 0] 68))
      rw [← hw0]
      clear hw0
      go_wp2_with (refine wpList_load_mid (by rfl) 62 (.tmp 5) (by rfl) w.heap.size 0 (by rfl) (mcells k n t s od (.slice a m c)) _ HRA.out Tryz.underlying62 rfl HIF.out ?_)
      refine (HCM.out w0).mono ?_
      rintro e w3 ⟨rfl, hb3⟩
      have HB3 := hid (HB0.out.trans (hb3.mono HB0.out.size))
      have HR3 := hid (range_below HRA.out hb3)
      have HM3 := hid (show ManAt w3 w.heap.size k n t s od (.slice a m c) from (hb3.block _ (lt_of_heap HM.out)).trans HM.out)
      have HZ3 := hid ((hb3.block _ (lt_of_heap HZ.out)).trans HZ.out)
      clear hb3
      obtain ⟨c0, -, c2, c3, -⟩ := HM3.out.c HO.out
      go_wp2_with (refine wpList_load_mid (by rfl) 62 (.tmp 5) (by rfl) w.heap.size 0 (by rfl) (mcells k n t s od (.slice a m c)) _ HR3.out Tryz.underlying62 rfl HIF.out ?_)
      refine (HCK.out w3 HB3.out).mono ?_
      rintro e w4 ⟨rfl, hb4⟩
      have HB4 := hid (HB3.out.trans (hb4.mono HB3.out.size))
      have HZ4 := hid ((hb4.block _ (lt_of_heap HZ3.out)).trans HZ3.out)
      clear hb4 c0 c2 c3
      obtain ⟨d0, d1, f0, f1⟩ := piece_freeA HZ4.out
      go_wp2
      exact bodyPost_ret (v := .tuple #[.agg #[.int .i64 0, .slice none 0 0], .int .i64 E]) (by simp [results, Tryz.results82, go_sem, d0, d1]) rfl ⟨by rw [HR1.out, HR3'.out, HR2.out]; exact rgnRes_none _ _, fld_belowA HFF.out ((HB4.out.setCell (p := ⟨w.heap.size + 1, 0, none⟩) (by simp) _).setCell (p := ⟨w.heap.size + 1, 1, none⟩) (by simp) _), Kept.of_below ((HB4.out.setCell (p := ⟨w.heap.size + 1, 0, none⟩) (by simp) _).setCell (p := ⟨w.heap.size + 1, 1, none⟩) (by simp) _)⟩
    case pos =>
      obtain ⟨hz0, hkp, hlen⟩ := rs_right (t := t) HPD.out HN.out hda
      have hz : chkAll k t (pidx ps) (alikeE ps) pn = 0 := by
        obtain ⟨g1, _⟩ := dAll_zero hda
        refine chk_of (fun i hi => ?_) hkp
        obtain ⟨g2, g3⟩ := dTo_all g1 i hi
        obtain ⟨_, e1, e2, _, _, _⟩ := cp_zero g2
        refine ⟨e1, e2, g3, ?_⟩
        unfold alikeE alikeL
        rw [(hlen i hi).2, (hlen 0 (by omega)).2]
        have := plen_le k.toNat s.toNat (by omega)
        rw [if_neg (by omega), if_pos rfl]
      rw [hda] at HCK
      have HPL := hid (show (pieceL k ps Dd I).length = plen' ps 0 from by unfold pieceL; exact mixL_length _ _ _ _)
      have hp0 : plen' ps 0 ≤ 8192 := by rw [(hlen 0 (by omega)).2]; have := plen_le k.toNat s.toNat (by omega); omega
      have HDC := hid (fun (wx : World) (b : Below w.heap.size w wx) => Rebuild_okN fb k.toNat t.toNat I.toNat pa pn pc ps Dd (by omega) (by omega) (by omega) (by omega) hpn hpc wx (fld_belowA HFF.out b) (HH.out.step (Kept.of_below b)) (by rw [show ((k.toNat : Nat) : Int) = k from by omega, show ((t.toNat : Nat) : Int) = t from by omega]; exact hz))
      rw [show ((k.toNat : Nat) : Int) = k from by omega, show ((t.toNat : Nat) : Int) = t from by omega, show ((I.toNat : Nat) : Int) = I from by omega] at HDC
      have HUE := hid (show regE k n t s m D ps Dd pn I = (if dig shaRound shaStart ([hi8 I, lo8 I] ++ pieceL k ps Dd I) = D.getD I.toNat [] then 0 else 20) from by rw [HU.out, if_neg hI, if_pos hda])
      have HRL := hid (show regL k n t s m D ps Dd pn I = if regE k n t s m D ps Dd pn I = 0 then pieceL k ps Dd I else [] from rfl)
      have HRI := hid (show regI k n t s m D ps Dd pn I = if regE k n t s m D ps Dd pn I = 0 then I else 0 from rfl)
      have HDC2 := hid (fun (wx : World) (b : Below w.heap.size w wx) => (HDC.out wx b).mono (fun e w' h => (show PieceResN wx.heap.size I (plen' ps 0) (pieceL k ps Dd I) e w' ∧ Built w' fb ∧ Kept fb wx w' from h)))
      obtain ⟨i, hi⟩ : ∃ i : Nat, I = (i : Int) := ⟨I.toNat, by omega⟩
      have him : i < D.length := by have := HDD.out.len; omega
      obtain ⟨b, o', ha, hrg⟩ : ∃ b o', a = some ⟨b, o', none⟩ ∧ ∀ j, j < D.length → w.rangeAt b (o' + j * 32) (u8s (D.getD j [])) := by
        obtain ⟨a', c', h1, h2, h3⟩ := HDD.out.at_
        obtain ⟨b, o', e, h4⟩ := h3 (fun h => by rw [h] at him; simp at him)
        simp only [Value.slice.injEq] at h1
        exact ⟨b, o', h1.1.trans e, h4⟩
      have hl32 : (D.getD i []).length = 32 := by
        rw [List.getD_eq_getElem?_getD, List.getElem?_eq_getElem him]
        exact HDD.out.l32 _ (List.getElem_mem _)
      have HRG := hid (hrg i him)
      obtain ⟨O, hO⟩ : ∃ O, O = pieceL k ps Dd I := ⟨_, rfl⟩
      rw [← hO] at HUE HPL HDC2 HRL
      obtain ⟨Y, hY⟩ : ∃ Y, Y = dig shaRound shaStart ([hi8 I, lo8 I] ++ O) := ⟨_, rfl⟩
      have hY32 : Y.length = 32 := by rw [hY]; exact dig_length _ _ _
      have HSH := hid (fun (wx : World) (V : Vars wx shaRound shaStart) (ob : Nat) (h : Bs wx (.slice (some ⟨ob, 0, none⟩) (plen' ps 0) (plen' ps 0)) O) => pdg_all I (some ⟨ob, 0, none⟩) (plen' ps 0) (plen' ps 0) O wx V h (Nat.le_refl _) (fun h => by cases h) (by omega))
      rw [← hY] at HSH HUE
      obtain ⟨Z, hZ⟩ : ∃ Z, Z = D.getD i [] := ⟨_, rfl⟩
      rw [← hZ] at HRG hl32
      have HEQ := hid (fun wx => eql_any Y Z hY32 hl32 wx)
      have HIFZ := hid (show (Tryz.prog.info? 23).map (·.size) = some (u8s Z).length from by simp only [u8s, List.length_map, hl32]; kernel_rfl)
      have hq0 : ∀ (q : Bool), q = decide (Y = Z) → regE k n t s m D ps Dd pn I = if q then 0 else 20 := by
        rintro q rfl
        rw [HUE.out, hZ, hi]
        simp only [Int.toNat_natCast]
        by_cases h : Y = D.getD i []
        · rw [if_pos h, decide_eq_true h]; rfl
        · rw [if_neg h, decide_eq_false h]; rfl
      generalize hq : decide (Y = Z) = q at *
      have HQ := hid (hq0 q rfl)
      have hmi : (i : Int) < (m : Int) := by have := HDD.out.len; omega
      have hi0 : (0 : Int) ≤ (i : Int) := by omega
      clear hq0 hq hY hY32 hO HUE HDC hz hz0 hkp hlen hda HU hrg him hZ hl32 hI
      subst hi
      subst ha
      cases q
      all_goals as_aux_lemma =>
        go_enter Tryz.func82, Tryz.ntmps82
        go_upto_region 1 with fail
        change Code.wp _ _ _ _ ((w.alloc (.cells (mcells k n t s od (.slice (some ⟨b, o', none⟩) m c)).toArray 62)).alloc (.cells #[.int .i64 0, .slice none 0 0] 68))
        rw [← hw0]
        clear hw0
        go_wp2_with (refine wpList_load_mid (by rfl) 62 (.tmp 5) (by rfl) w.heap.size 0 (by rfl) (mcells k n t s od (.slice (some ⟨b, o', none⟩) m c)) _ HRA.out Tryz.underlying62 rfl HIF.out ?_)
        refine (HCM.out w0).mono ?_
        rintro e w3 ⟨rfl, hb3⟩
        have HB3 := hid (HB0.out.trans (hb3.mono HB0.out.size))
        have HR3 := hid (range_below HRA.out hb3)
        have HM3 := hid (show ManAt w3 w.heap.size k n t s od (.slice (some ⟨b, o', none⟩) m c) from (hb3.block _ (lt_of_heap HM.out)).trans HM.out)
        have HZ3 := hid ((hb3.block _ (lt_of_heap HZ.out)).trans HZ.out)
        clear hb3
        obtain ⟨c0, -, c2, c3, -⟩ := HM3.out.c HO.out
        go_wp2_with (refine wpList_load_mid (by rfl) 62 (.tmp 5) (by rfl) w.heap.size 0 (by rfl) (mcells k n t s od (.slice (some ⟨b, o', none⟩) m c)) _ HR3.out Tryz.underlying62 rfl HIF.out ?_)
        refine (HCK.out w3 HB3.out).mono ?_
        rintro e w4 ⟨rfl, hb4⟩
        have HB4 := hid (HB3.out.trans (hb4.mono HB3.out.size))
        have HM4 := hid (show ManAt w4 w.heap.size k n t s od (.slice (some ⟨b, o', none⟩) m c) from (hb4.block _ (lt_of_heap HM3.out)).trans HM3.out)
        have HZ4 := hid ((hb4.block _ (lt_of_heap HZ3.out)).trans HZ3.out)
        clear hb4 c0 c2 c3
        obtain ⟨c0, -, c2, c3, c36⟩ := HM4.out.c HO.out
        go_wp2_with fail
        refine (HDC2.out w4 HB4.out).mono ?_
        rintro e w5 ⟨⟨ob, hob5, rfl, hbs5⟩, hbu5, hk5⟩
        have HK5 := hid ((Kept.of_below (b := fb) HB4.out).trans hk5)
        have hobz : ob ≠ w.heap.size + 1 := by have := lt_of_heap HZ4.out; omega
        have HBS5 := hid hbs5
        have HBU := hid (show Fld w5 fb from .inr hbu5)
        have HM5 := hid (show ManAt w5 w.heap.size k n t s od (.slice (some ⟨b, o', none⟩) m c) from (hk5.block _ (lt_of_heap HM4.out) (by omega)).trans HM4.out)
        have HZ5 := hid ((hk5.block _ (lt_of_heap HZ4.out) (by omega)).trans HZ4.out)
        have HV5 := hid (HV.out.kept HK5.out hlo)
        have HRG5 := hid (range_keptA HRG.out HK5.out (hoffm _ rfl))
        clear hk5 hbs5 hbu5
        obtain ⟨w6, hw6⟩ : ∃ y, y = w5.alloc (.cells #[.int .i64 (i : Int), .slice (some ⟨ob, 0, none⟩) (plen' ps 0) (plen' ps 0)] 68) := ⟨_, rfl⟩
        have hb56 : Below w5.heap.size w5 w6 := by rw [hw6]; exact (Below.refl _ _).alloc (Nat.le_refl _) _
        have HQB := hid (show w6.heap[w5.heap.size]? = some (.cells #[.int .i64 (i : Int), .slice (some ⟨ob, 0, none⟩) (plen' ps 0) (plen' ps 0)] 68 (0, 0)) from by rw [hw6]; exact heap_new _ _)
        have HK6 := hid (HK5.out.trans (Kept.of_below hb56))
        have HBS6 := hid (HBS5.out.below hb56)
        have HZ6 := hid ((hb56.block _ (lt_of_heap HZ5.out)).trans HZ5.out)
        have hM6 : ManAt w6 w.heap.size k n t s od (.slice (some ⟨b, o', none⟩) m c) := (hb56.block _ (lt_of_heap HM5.out)).trans HM5.out
        have HV6 := hid (HV5.out.below hb56)
        have HRG6 := hid (range_below HRG5.out hb56)
        have HBU6 := hid (fld_belowA HBU.out hb56)
        have q36 := (hM6.c HO.out).2.2.2.2
        obtain ⟨g0, g1, -, -⟩ := piece_freeA HQB.out
        have hne : Nonempty (Cls fun w' => Below w6.heap.size w6 w') := ⟨⟨w6, Below.refl _ _⟩⟩
        have r36 : ∀ p : Cls (fun w' => Below w6.heap.size w6 w'), p.w.cell? ⟨w.heap.size, 36, none⟩ = some (.slice (some ⟨b, o', none⟩) m c) := fun p => (p.h.cell (World.block_lt_of_cell? _ _ q36)).trans q36
        have r0 : ∀ p : Cls (fun w' => Below w6.heap.size w6 w'), p.w.cell? ⟨w5.heap.size, 0, none⟩ = some (.int .i64 (i : Int)) := fun p => (p.h.cell (World.block_lt_of_cell? _ _ g0)).trans g0
        have r1 : ∀ p : Cls (fun w' => Below w6.heap.size w6 w'), p.w.cell? ⟨w5.heap.size, 1, none⟩ = some (.slice (some ⟨ob, 0, none⟩) (plen' ps 0) (plen' ps 0)) := fun p => (p.h.cell (World.block_lt_of_cell? _ _ g1)).trans g1
        have HSQ := hid (fun (p : Cls fun w' => Below w6.heap.size w6 w') => HSH.out p.w (HV6.out.below p.h) ob (HBS6.out.below p.h))
        have HRQ := hid (fun (p : Cls fun w' => Below w6.heap.size w6 w') => range_below HRG6.out p.h)
        have e1 := fun wx => HEQ.out wx
        clear c0 c2 c3 c36 q36 g0 g1 hM6 hb56
        go_upto_region 12 with fail
        change Code.wp _ _ _ _ (w5.alloc (.cells #[.int .i64 (i : Int), .slice (some ⟨ob, 0, none⟩) (plen' ps 0) (plen' ps 0)] 68))
        rw [← hw6]
        clear hw6
        refine wp_region_class_lit (G := fun w' => Below w6.heap.size w6 w') (by kernel_rfl) (by kernel_rfl) (bel_drewN (Below.refl _ _) 1) ?_
        iterate 12 (go_big_quiet_step ((go_at_call 86; exact Calls.cls (HSQ.out _))))
        refine wpQuiet_load_clsW (by rfl) 23 (.tmp 61) (by rfl) b (o' + i * 32) (by rfl) (u8s Z) _ HRQ.out Tryz.underlying23 rfl HIFZ.out ?_
        rintro _ rfl
        try simp only [Act.put, List.setIfInBounds_toArray, List.set_cons_zero, List.set_cons_succ]
        repeat (go_big_quiet_step ((go_at_call 86; exact Calls.cls (HSQ.out _))))
        refine wpQuiet_nil ?_
        rintro _ ⟨⟨wp, hwp⟩, rfl⟩
        have HKP := hid (HK6.out.trans (Kept.of_below hwp))
        have HFP := hid (fld_belowA HBU6.out hwp)
        have HBSP := hid (HBS6.out.below hwp)
        obtain ⟨d0, d1, f0, f1⟩ := piece_freeA ((hwp.block _ (lt_of_heap HZ6.out)).trans HZ6.out)
        obtain ⟨g0, g1, -, -⟩ := piece_freeA ((hwp.block _ (lt_of_heap HQB.out)).trans HQB.out)
        clear hwp e1 HSQ HRQ hne r36 r0 r1
        go_wp2
        first
          | exact bodyPost_ret (v := .tuple #[.agg #[.int .i64 0, .slice none 0 0], .int .i64 20]) (by simp [results, Tryz.results82, go_sem, d0, d1]) rfl ⟨by rw [HRL.out, HRI.out, HQ.out]; exact rgnRes_none _ _, fld_setA (fld_setA HFP.out (by omega) _ _) (by omega) _ _, ((HKP.out.setNew (p := ⟨w.heap.size + 1, 0, none⟩) (by simp) _).setNew (p := ⟨w.heap.size + 1, 1, none⟩) (by simp) _)⟩
          | exact bodyPost_ret (v := .tuple #[.agg #[.int .i64 (i : Int), .slice (some ⟨ob, 0, none⟩) (plen' ps 0) (plen' ps 0)], .int .i64 0]) (by simp [results, Tryz.results82, go_sem, d0, d1]) rfl ⟨by rw [HRL.out, HRI.out, HQ.out]; exact rgnRes_some HPL.out ((HBSP.out.set_offR (b := w.heap.size + 1) hobz 0 _).set_offR (b := w.heap.size + 1) hobz 1 _), fld_setA (fld_setA HFP.out (by omega) _ _) (by omega) _ _, ((HKP.out.setNew (p := ⟨w.heap.size + 1, 0, none⟩) (by simp) _).setNew (p := ⟨w.heap.size + 1, 1, none⟩) (by simp) _)⟩
end Go.Proofs.YtjgiiciniplbnaaGreatDoor

namespace Go.Proofs.YtjgiiciniplbnaaGreatDoor
open Go Go.RowKit Go.Lib Go.Sort
set_option linter.unusedVariables false

/-- whether a Gather is ready -/
def rdyG (k : Int) (q : Nat) : Bool := decide (0 < q) && decide (k ≤ (q : Int))
theorem gth_loadM {w : World} {gb : Nat} {obj : List Nat} {M : List Value} {pv : Value} (h : GthAt w gb obj M pv) (ho : obj.length = 32) (hM : M.length = 37) : (loadVar 62 ⟨gb, 32, none⟩).run Tryz.prog w = .ok (.agg M.toArray) w :=
  run_loadVar_mid (P := Tryz.prog) w gb 32 62 M _ (h.man ho hM) Tryz.underlying62 rfl (by rw [hM]; kernel_rfl)
set_option maxRecDepth 100000 in
set_option maxHeartbeats 2000000 in
theorem complete_any (gb : Nat) (obj : List Nat) (ho : obj.length = 32) (k n t s : Int) (od : List Nat) (v : Value) (hM : (mcells k n t s od v).length = 37) (pa : Option Addr) (m c : Nat) (w : World) (hG : GthAt w gb obj (mcells k n t s od v) (.slice pa m c)) :
    Calls Tryz.prog 79 #[.pointer (some ⟨gb, 0, none⟩)] w fun e w' => e = .returned (.int .i64 (if rdyG k m then 0 else 12)) ∧ Below w.heap.size w w' := by
  have HR := hid (Ready_any gb obj ho k n t s od v hM pa m c w hG)
  rw [show (decide (0 < m) && decide (k ≤ (m : Int))) = rdyG k m from rfl] at HR
  obtain ⟨E, hE⟩ : ∃ E : Int, E = if rdyG k m then 0 else 12 := ⟨_, rfl⟩
  rw [← hE]
  have HE := hid hE
  clear hG hE
  generalize rdyG k m = Y at *
  go_enter Tryz.func79, Tryz.ntmps79
  go_wp2_with fail
  refine HR.out.mono ?_
  rintro e w1 ⟨rfl, hb1⟩
  cases Y with
  | true =>
    obtain rfl : E = 0 := HE.out
    go_wp2_with fail
    go_ret
    exact ⟨rfl, hb1⟩
  | false =>
    obtain rfl : E = 12 := HE.out
    go_wp2_with fail
    go_ret
    exact ⟨rfl, hb1⟩
set_option maxRecDepth 100000 in
set_option maxHeartbeats 4000000 in
theorem Data_few (gb : Nat) (obj : List Nat) (ho : obj.length = 32) (k n t s : Int) (od : List Nat) (v : Value) (hM : (mcells k n t s od v).length = 37) (pa : Option Addr) (m c : Nat) (f : Value) (w : World) (hG : GthAt w gb obj (mcells k n t s od v) (.slice pa m c)) (hr : rdyG k m = false) :
    Calls Tryz.prog 52 #[.pointer (some ⟨gb, 0, none⟩), f] w fun e w' => e = .returned (.tuple #[.slice none 0 0, .int .i64 12]) ∧ Below w.heap.size w w' := by
  have HC := hid (complete_any gb obj ho k n t s od v hM pa m c w hG)
  rw [hr] at HC
  clear hG
  go_enter Tryz.func52, Tryz.ntmps52
  go_wp2_with fail
  refine HC.out.mono ?_
  rintro e w1 ⟨rfl, hb1⟩
  go_wp2
  go_ret2
  exact ⟨rfl, hb1⟩
set_option maxRecDepth 100000 in
set_option maxHeartbeats 4000000 in
theorem Data_ready (gb fb : Nat) (hne : gb ≠ fb) (obj : List Nat) (ho : obj.length = 32) (k n t s : Int) (od : List Nat) (v : Value) (hM : (mcells k n t s od v).length = 37) (pa : Option Addr) (m c : Nat) (E : Int) (L : List Nat) (w : World) (hG : GthAt w gb obj (mcells k n t s od v) (.slice pa m c)) (hr : rdyG k m = true)
    (HA : ∀ wx, Below w.heap.size w wx → Calls Tryz.prog 80 #[.pointer (some ⟨fb, 0, none⟩), .agg (mcells k n t s od v).toArray, .slice pa m c] wx fun e w' => AsmRes E L e w' ∧ Fld w' fb ∧ Kept fb wx w') :
    Calls Tryz.prog 52 #[.pointer (some ⟨gb, 0, none⟩), .pointer (some ⟨fb, 0, none⟩)] w fun e w' => AsmRes E L e w' ∧ Fld w' fb ∧ Kept fb w w' := by
  have HC := hid (complete_any gb obj ho k n t s od v hM pa m c w hG)
  rw [hr] at HC
  have HG := hid hG
  have HAS := hid HA
  have HNE := hid hne
  obtain ⟨M, hMe⟩ : ∃ y, y = (mcells k n t s od v).toArray := ⟨_, rfl⟩
  have HGL := hid (lt_of_heap HG.out)
  have HKP := hid (show ∀ wx : World, wx.heap[gb]? = w.heap[gb]? → wx.cell? ⟨gb, 69, none⟩ = some (.slice pa m c) ∧ (loadVar 62 ⟨gb, 32, none⟩).run Tryz.prog wx = .ok (.agg M) wx from fun wx h => by
    have hg : GthAt wx gb obj (mcells k n t s od v) (.slice pa m c) := h.trans HG.out
    exact ⟨hg.pv ho hM, by rw [hMe]; exact gth_loadM hg ho hM⟩)
  rw [← hMe] at HAS
  clear hG HA hMe hne
  go_enter Tryz.func52, Tryz.ntmps52
  go_wp2_with fail
  refine HC.out.mono ?_
  rintro e w1 ⟨rfl, hb1⟩
  have HB1 := hid hb1
  clear hb1
  go_upto_region 4 with fail
  refine wp_region_held_drew (S := (fun wx : World => wx.cell? ⟨gb, 69, none⟩ = some (.slice pa m c) ∧ (loadVar 62 ⟨gb, 32, none⟩).run Tryz.prog wx = .ok (.agg M) wx)) (by kernel_rfl) (HKP.out _ ((bel_drewN HB1.out 1).block gb HGL.out)) (fun hHeld => ?_)
  refine wpAnyH_take (i := 0) (oi := { dst := some 12, op := Op.move (Operand.tmp 1), type := 56, pos := "gather.go:94", after := #[], guard := none }) (v := ?_) rfl (by kernel_rfl) (by kernel_rfl) (by kernel_rfl) (fun _ _ _ h => h) (Or.inl ⟨by rfl, ?hy⟩) hHeld ?_
  case hy => (intro w hSw; (try dsimp only at hSw); obtain ⟨_, _⟩ := hSw; go_simp; all_goals (with_reducible rfl))
  try simp only [Act.put, List.setIfInBounds_toArray, List.set_cons_zero, List.set_cons_succ]
  refine wpAnyH_take (i := 1) (oi := { dst := some 13, op := Op.move (Operand.tmp 0), type := 58, pos := "gather.go:94", after := #[], guard := none }) (v := ?_) rfl (by kernel_rfl) (by kernel_rfl) (by kernel_rfl) (fun _ _ _ h => h) (Or.inl ⟨by rfl, ?hy⟩) hHeld ?_
  case hy => (intro w hSw; (try dsimp only at hSw); obtain ⟨_, _⟩ := hSw; go_simp; all_goals (with_reducible rfl))
  try simp only [Act.put, List.setIfInBounds_toArray, List.set_cons_zero, List.set_cons_succ]
  refine wpAnyH_take (i := 2) (oi := { dst := some 14, op := Op.nilCheck (Operand.tmp 13), type := 0, pos := "gather.go:94", after := #[{ on := 1, ground := Ground.data }], guard := none }) (v := ?_) rfl (by kernel_rfl) (by kernel_rfl) (by kernel_rfl) (fun _ _ _ h => h) (Or.inl ⟨by rfl, ?hy⟩) hHeld ?_
  case hy => (intro w hSw; (try dsimp only at hSw); obtain ⟨_, _⟩ := hSw; go_simp; all_goals (with_reducible rfl))
  try simp only [Act.put, List.setIfInBounds_toArray, List.set_cons_zero, List.set_cons_succ]
  refine wpAnyH_take (i := 3) (oi := { dst := some 15, op := Op.fieldAddr 158 (Operand.tmp 14) 1, type := 0, pos := "gather.go:94", after := #[{ on := 2, ground := Ground.data }], guard := none }) (v := ?_) rfl (by kernel_rfl) (by kernel_rfl) (by kernel_rfl) (fun _ _ _ h => h) (Or.inl ⟨by rfl, ?hy⟩) hHeld ?_
  case hy => (intro w hSw; (try dsimp only at hSw); obtain ⟨_, _⟩ := hSw; go_simp; all_goals (with_reducible rfl))
  try simp only [Act.put, List.setIfInBounds_toArray, List.set_cons_zero, List.set_cons_succ]
  refine wpAnyH_take (i := 4) (oi := { dst := some 16, op := Op.load 62 (Operand.tmp 15), type := 62, pos := "gather.go:94", after := #[{ on := 3, ground := Ground.data }], guard := none }) (v := .agg M) rfl (by kernel_rfl) (by kernel_rfl) (by kernel_rfl) (fun _ _ _ h => h) (Or.inl ⟨by rfl, ?hy⟩) hHeld ?_
  case hy => (intro w hSw; exact run_load_opP hSw.2)
  try simp only [Act.put, List.setIfInBounds_toArray, List.set_cons_zero, List.set_cons_succ]
  refine wpAnyH_take (i := 5) (oi := { dst := some 17, op := Op.move (Operand.tmp 0), type := 58, pos := "gather.go:94", after := #[], guard := none }) (v := ?_) rfl (by kernel_rfl) (by kernel_rfl) (by kernel_rfl) (fun _ _ _ h => h) (Or.inl ⟨by rfl, ?hy⟩) hHeld ?_
  case hy => (intro w hSw; (try dsimp only at hSw); obtain ⟨_, _⟩ := hSw; go_simp; all_goals (with_reducible rfl))
  try simp only [Act.put, List.setIfInBounds_toArray, List.set_cons_zero, List.set_cons_succ]
  refine wpAnyH_take (i := 6) (oi := { dst := some 18, op := Op.nilCheck (Operand.tmp 17), type := 0, pos := "gather.go:94", after := #[{ on := 5, ground := Ground.data }], guard := none }) (v := ?_) rfl (by kernel_rfl) (by kernel_rfl) (by kernel_rfl) (fun _ _ _ h => h) (Or.inl ⟨by rfl, ?hy⟩) hHeld ?_
  case hy => (intro w hSw; (try dsimp only at hSw); obtain ⟨_, _⟩ := hSw; go_simp; all_goals (with_reducible rfl))
  try simp only [Act.put, List.setIfInBounds_toArray, List.set_cons_zero, List.set_cons_succ]
  refine wpAnyH_take (i := 7) (oi := { dst := some 19, op := Op.fieldAddr 158 (Operand.tmp 18) 2, type := 0, pos := "gather.go:94", after := #[{ on := 6, ground := Ground.data }], guard := none }) (v := ?_) rfl (by kernel_rfl) (by kernel_rfl) (by kernel_rfl) (fun _ _ _ h => h) (Or.inl ⟨by rfl, ?hy⟩) hHeld ?_
  case hy => (intro w hSw; (try dsimp only at hSw); obtain ⟨_, _⟩ := hSw; go_simp; all_goals (with_reducible rfl))
  try simp only [Act.put, List.setIfInBounds_toArray, List.set_cons_zero, List.set_cons_succ]
  refine wpAnyH_take (i := 8) (oi := { dst := some 20, op := Op.load 63 (Operand.tmp 19), type := 63, pos := "gather.go:94", after := #[{ on := 7, ground := Ground.data }], guard := none }) (v := ?_) rfl (by kernel_rfl) (by kernel_rfl) (by kernel_rfl) (fun _ _ _ h => h) (Or.inl ⟨by rfl, ?hy⟩) hHeld ?_
  case hy => (intro w hSw; (try dsimp only at hSw); obtain ⟨_, _⟩ := hSw; go_simp; all_goals (with_reducible rfl))
  try simp only [Act.put, List.setIfInBounds_toArray, List.set_cons_zero, List.set_cons_succ]
  refine wpAnyH_ready (rs := [9]) (by kernel_rfl) (by simp) ?_
  refine AllReadyH.cons (o := { dst := some 21, op := Op.call { callee := Callee.value (Operand.func 80), args := #[Operand.tmp 12, Operand.tmp 16, Operand.tmp 20], argTypes := #[56, 62, 63] }, type := 83, pos := "gather.go:94", after := #[{ on := 0, ground := Ground.data }, { on := 4, ground := Ground.data }, { on := 8, ground := Ground.data }], guard := none }) rfl (fun K hK => ?_) AllReadyH.nil
  go_simp
  refine (HAS.out _ (bel_drewN HB1.out 1)).mono ?_
  rintro e w4 ⟨⟨ra, rc, rfl, hbl, hlc, hnn⟩, hfl, hkt⟩
  have HBL := hid hbl
  have HLC := hid hlc
  have HNN := hid hnn
  have HFL := hid hfl
  have HKT := hid ((Kept.of_below (b := fb) (bel_drewN HB1.out 1)).trans hkt)
  clear hbl hlc hnn hfl hkt
  clear hHeld
  go_wp2_with fail
  refine hK.out _ _ (HKP.out _ (HKT.out.block gb HGL.out HNE.out)) (fun hHeld => ?_)
  clear hK K
  try simp only [Act.put, List.setIfInBounds_toArray, List.set_cons_zero, List.set_cons_succ]
  refine wpAnyH_take (i := 10) (oi := { dst := some 22, op := Op.extract (Operand.tmp 21) 0, type := 66, pos := "gather.go:94", after := #[{ on := 9, ground := Ground.data }], guard := none }) (v := ?_) rfl (by kernel_rfl) (by kernel_rfl) (by kernel_rfl) (fun _ _ _ h => h) (Or.inl ⟨by rfl, ?hy⟩) hHeld ?_
  case hy => (intro w hSw; (try dsimp only at hSw); obtain ⟨_, _⟩ := hSw; go_simp; all_goals (with_reducible rfl))
  try simp only [Act.put, List.setIfInBounds_toArray, List.set_cons_zero, List.set_cons_succ]
  refine wpAnyH_take (i := 11) (oi := { dst := some 23, op := Op.extract (Operand.tmp 21) 1, type := 73, pos := "gather.go:94", after := #[{ on := 9, ground := Ground.data }], guard := none }) (v := ?_) rfl (by kernel_rfl) (by kernel_rfl) (by kernel_rfl) (fun _ _ _ h => h) (Or.inl ⟨by rfl, ?hy⟩) hHeld ?_
  case hy => (intro w hSw; (try dsimp only at hSw); obtain ⟨_, _⟩ := hSw; go_simp; all_goals (with_reducible rfl))
  try simp only [Act.put, List.setIfInBounds_toArray, List.set_cons_zero, List.set_cons_succ]
  refine wpAnyH_take (i := 12) (oi := { dst := some 4, op := Op.assign (Operand.tmp 22), type := 66, pos := "gather.go:94", after := #[{ on := 10, ground := Ground.data }, { on := 9, ground := Ground.chain }, { on := 0, ground := Ground.phase }, { on := 1, ground := Ground.phase }, { on := 2, ground := Ground.phase }, { on := 3, ground := Ground.phase }, { on := 4, ground := Ground.phase }, { on := 5, ground := Ground.phase }, { on := 6, ground := Ground.phase }, { on := 7, ground := Ground.phase }, { on := 8, ground := Ground.phase }, { on := 9, ground := Ground.phase }, { on := 10, ground := Ground.phase }, { on := 11, ground := Ground.phase }], guard := none }) (v := ?_) rfl (by kernel_rfl) (by kernel_rfl) (by kernel_rfl) (fun _ _ _ h => h) (Or.inl ⟨by rfl, ?hy⟩) hHeld ?_
  case hy => (intro w hSw; (try dsimp only at hSw); obtain ⟨_, _⟩ := hSw; go_simp; all_goals (with_reducible rfl))
  try simp only [Act.put, List.setIfInBounds_toArray, List.set_cons_zero, List.set_cons_succ]
  refine wpAnyH_take (i := 13) (oi := { dst := some 5, op := Op.assign (Operand.tmp 23), type := 73, pos := "gather.go:94", after := #[{ on := 11, ground := Ground.data }, { on := 12, ground := Ground.chain }, { on := 0, ground := Ground.phase }, { on := 1, ground := Ground.phase }, { on := 2, ground := Ground.phase }, { on := 3, ground := Ground.phase }, { on := 4, ground := Ground.phase }, { on := 5, ground := Ground.phase }, { on := 6, ground := Ground.phase }, { on := 7, ground := Ground.phase }, { on := 8, ground := Ground.phase }, { on := 9, ground := Ground.phase }, { on := 10, ground := Ground.phase }, { on := 11, ground := Ground.phase }, { on := 12, ground := Ground.phase }], guard := none }) (v := ?_) rfl (by kernel_rfl) (by kernel_rfl) (by kernel_rfl) (fun _ _ _ h => h) (Or.inl ⟨by rfl, ?hy⟩) hHeld ?_
  case hy => (intro w hSw; (try dsimp only at hSw); obtain ⟨_, _⟩ := hSw; go_simp; all_goals (with_reducible rfl))
  try simp only [Act.put, List.setIfInBounds_toArray, List.set_cons_zero, List.set_cons_succ]
  refine wpAnyH_done (by kernel_rfl) ?_ _
  go_wp2
  go_ret2
  exact ⟨⟨ra, rc, rfl, HBL.out, HLC.out, HNN.out⟩, HFL.out, HKT.out⟩
set_option maxRecDepth 100000 in
set_option maxHeartbeats 4000000 in
theorem Piece_few (gb : Nat) (obj : List Nat) (ho : obj.length = 32) (k n t s : Int) (od : List Nat) (v : Value) (hM : (mcells k n t s od v).length = 37) (pa : Option Addr) (m c : Nat) (f : Value) (x : Int) (w : World) (hG : GthAt w gb obj (mcells k n t s od v) (.slice pa m c)) (hr : rdyG k m = false) :
    Calls Tryz.prog 54 #[.pointer (some ⟨gb, 0, none⟩), f, .int .i64 x] w fun e w' => e = .returned (.tuple #[.agg #[.int .i64 0, .slice none 0 0], .int .i64 12]) ∧ Below w.heap.size w w' := by
  have HC := hid (fun (wx : World) (h : Below w.heap.size w wx) => complete_any gb obj ho k n t s od v hM pa m c wx (hG.below h))
  rw [hr] at HC
  have hb : Tryz.prog.built 68 [] = some #[.int .i64 0, .slice none 0 0] := by kernel_rfl
  have hb0 := (Below.refl w.heap.size w).alloc (Nat.le_refl _) (.cells #[.int .i64 0, .slice none 0 0] 68)
  clear hG
  go_enter Tryz.func54, Tryz.ntmps54
  go_wp2_with fail
  refine (HC.out _ hb0).mono ?_
  rintro e w1 ⟨rfl, hb1⟩
  have hbl := (((Below.refl w.heap.size w).alloc (Nat.le_refl _) (.cells #[.int .i64 0, .slice none 0 0] 68))).trans (hb1.mono (by simp))
  have h0 := (hb1.block w.heap.size (by simp)).trans (heap_new w (.cells #[.int .i64 0, .slice none 0 0] 68))
  have c0 : w1.cell? ⟨w.heap.size, 0, none⟩ = some (.int .i64 0) := by rw [cell_of_heap h0]; rfl
  have c1 : w1.cell? ⟨w.heap.size, 1, none⟩ = some (.slice none 0 0) := by rw [cell_of_heap h0]; rfl
  have f0 := free_of_heap h0 0
  have f1 := free_of_heap h0 1
  have hk : ∀ v0 v1, ((w1.setCell ⟨w.heap.size, 0, none⟩ v0).setCell ⟨w.heap.size, 1, none⟩ v1).heap[w.heap.size]? = some (.cells #[v0, v1] 68 (0, 0)) := fun v0 v1 => by
    have h1 := heap_set (heap_set h0 0 v0) 1 v1
    rw [h1]
    rfl
  have hs : ∀ v0 v1, Below w.heap.size w ((w1.setCell ⟨w.heap.size, 0, none⟩ v0).setCell ⟨w.heap.size, 1, none⟩ v1) := fun v0 v1 => (hbl.setCell (Nat.le_refl _) _).setCell (Nat.le_refl _) _
  clear hb0 hb1
  go_wp2
  have hif : (Tryz.prog.info? 68).map (·.size) = some (#[.int .i64 0, .slice none 0 0] : Array Value).size := by kernel_rfl
  have hres := run_loadVar_row (P := Tryz.prog) _ _ 68 68 _ (0, 0) _ (hk (.int .i64 0) (.slice none 0 0)) Tryz.underlying68 rfl hif
  exact bodyPost_ret (v := .tuple #[.agg #[.int .i64 0, .slice none 0 0], .int .i64 12]) (results_di Tryz.results54 rfl hres rfl) rfl ⟨rfl, hs _ _⟩
set_option maxRecDepth 100000 in
set_option maxHeartbeats 4000000 in
theorem Offer_err (gb : Nat) (obj : List Nat) (ho : obj.length = 32) (M : List Value) (hM : M.length = 37) (pv : Value) (k n t s : Int) (od : List Nat) (hod : od.length = 32) (v : Value) (x : Int) (qa : Option Addr) (qn qc : Nat) (E : Int) (hE : E ≠ 0) (w : World) (hml : (mcells k n t s od v).length = 37)
    (HI : ∀ wx, Below w.heap.size w wx → Calls Tryz.prog 74 #[.pointer (some ⟨gb, 0, none⟩), .agg (mcells k n t s od v).toArray, .agg #[.int .i64 x, .slice qa qn qc]] wx fun e w' => e = .returned (.int .i64 E) ∧ Below wx.heap.size wx w') :
    Calls Tryz.prog 44 #[.pointer (some ⟨gb, 0, none⟩), .agg (mcells k n t s od v).toArray, .agg #[.int .i64 x, .slice qa qn qc]] w fun e w' => e = .returned (.int .i64 E) ∧ Below w.heap.size w w' := by
  obtain ⟨MC, hMCe⟩ : ∃ y, y = mcells k n t s od v := ⟨_, rfl⟩
  rw [← hMCe] at HI hml ⊢
  obtain ⟨w0, hw0⟩ : ∃ y, y = (w.alloc (.cells MC.toArray 62)).alloc (.cells #[.int .i64 x, .slice qa qn qc] 68) := ⟨_, rfl⟩
  have hs1 : (w.alloc (.cells MC.toArray 62)).heap.size = w.heap.size + 1 := by simp
  have hb0 : Below w.heap.size w w0 := by rw [hw0]; exact ((Below.refl _ _).alloc (Nat.le_refl _) _).alloc (by simp) _
  have hMA : w0.heap[w.heap.size]? = some (.cells MC.toArray 62 (0, 0)) := by
    rw [hw0]
    exact (heap_alloc_old _ _ (by simp)).trans (heap_new _ _)
  have hPA : w0.heap[w.heap.size + 1]? = some (.cells #[.int .i64 x, .slice qa qn qc] 68 (0, 0)) := by rw [hw0, ← hs1]; exact heap_new _ _
  have HW0 := hid hw0
  have HB0 := hid hb0
  have HMR := hid (range_of_heap hMA)
  have HIM := hid (show (Tryz.prog.info? 62).map (·.size) = some MC.length from by rw [hml]; kernel_rfl)
  have HCK := hid HI
  have p0 : w0.cell? ⟨w.heap.size + 1, 0, none⟩ = some (.int .i64 x) := by rw [cell_of_heap hPA]; rfl
  have p1 : w0.cell? ⟨w.heap.size + 1, 1, none⟩ = some (.slice qa qn qc) := by rw [cell_of_heap hPA]; rfl
  have hE1 : (E != 0) = true := by simp [hE]
  clear hw0 hs1 hb0 hMA hPA HI ho hml hMCe hod
  go_enter Tryz.func44, Tryz.ntmps44
  go_upto_region 1 with fail
  change Code.wp _ _ _ _ ((w.alloc (.cells MC.toArray 62)).alloc (.cells #[.int .i64 x, .slice qa qn qc] 68))
  rw [← HW0.out]
  clear HW0
  go_wp2_with (refine wpList_load_mid (by rfl) 62 (.tmp 4) (by rfl) w.heap.size 0 (by rfl) MC _ HMR.out Tryz.underlying62 rfl HIM.out ?_)
  refine (HCK.out w0 HB0.out).mono ?_
  rintro e w1 ⟨rfl, hb1⟩
  have HB1 := hid (HB0.out.trans (hb1.mono HB0.out.size))
  clear hb1 p0 p1
  go_wp2_with fail
  go_ret
  exact ⟨rfl, HB1.out⟩
end Go.Proofs.YtjgiiciniplbnaaGreatDoor
