/-
  PlaceClaims: for every input the call returns true, and each argument reads behind it as before; the listed variables hold what the program's text lays (tied). No other condition.
-/
import Derived.Test.YtjgiiciniplbnaaGreatDoorKc4
import Derived.Deep.DeepCutAuto
import Derived.Test.YtjgiiciniplbnaaGreatDoorKc1
import Derived.Test.YtjgiiciniplbnaaGreatDoorCards
import Derived.Test.YtjgiiciniplbnaaGreatDoorTie
import Derived.ShutString
import Derived.ChangeOld
import Derived.Below
namespace Go.Proofs.YtjgiiciniplbnaaGreatDoor
open Go Go.RowKit Go.Lib Go.Sort Go.Shelf
set_option linter.unusedVariables false

/-- the loop's state: the claims in both forms -/
def ClI (w : World) (B cb mb N : Nat) (v : Value) (R : List Clm) : Prop := ∃ n D J, CM B w N cb mb n D J ∧ Rel J R ∧ Rw w v R ∧ R.length ≤ N
/-- one call of Note, both -/
theorem Note_all (B N cb mb n : Nat) (D : DataW Unit) (J : Jt) (hN : N < 1000) (R : List Clm) (hJR : Rel J R) (obj : List Nat) (ho : obj.length = 32) (hlt : ∀ y ∈ obj, y < 256) (x : Int) (t : Int) (ht0 : 0 ≤ t) (ht1 : t < 18446744073709551616) (w : World) (hc : CM B w N cb mb n D J) :
    Calls Tryz.prog 33 #[.pointer (some ⟨cb, 0, none⟩), .agg (u8s obj).toArray, .int .i64 x, .int .u64 t] w fun e w' => e = .returned (.tuple #[]) ∧ KM B w w' ∧ ∃ n' D' J', CM B w' (N + 1) cb mb n' D' J' ∧ Rel J' (if 0 ≤ x ∧ x < 16 then R.filter (fNote obj x.toNat) ++ [⟨obj, x.toNat, t⟩] else R) := by
  by_cases hx : 0 ≤ x ∧ x < 16
  · rw [if_pos hx]
    obtain ⟨p, rfl⟩ : ∃ p : Nat, x = (p : Int) := ⟨x.toNat, by omega⟩
    have hp : p < 16 := by omega
    rw [Int.toNat_natCast]
    obtain ⟨kl, hkl⟩ := key_dig obj ho hlt
    cases hJ : J kl with
    | none =>
      refine (Note_new B N cb mb n D J (by omega) obj ho hlt kl hkl p hp t ht0 ht1 w hc hJ).mono ?_
      rintro e w' ⟨rfl, hk, ib, hc'⟩
      refine ⟨rfl, hk, _, _, _, hc', hJR.note hkl (fun q => ?_) (fun z hz q => vj_set_other J _ hz q)⟩
      rw [vj_some (Jset_same _ _ _) q, vj_none hJ]
      exact vw_put Maps.isMap_empty
    | some a =>
      obtain ⟨ib, ni, DI⟩ := a
      refine (Note_more B N cb mb n ib ni D DI J (by omega) obj ho kl hkl p hp t ht0 ht1 w hc hJ).mono ?_
      rintro e w' ⟨rfl, hk, hc'⟩
      refine ⟨rfl, hk, _, _, _, hc', hJR.note hkl (fun q => ?_) (fun z hz q => vj_set_other J _ hz q)⟩
      rw [vj_some (Jset_same _ _ _) q, vj_some hJ]
      exact vw_put (hc.inn kl _ hJ).1.own.isMap
  · rw [if_neg hx]
    refine (Note_bad B N cb mb n D J (u8s obj).toArray x hx _ w hc).mono ?_
    rintro e w' ⟨rfl, hb⟩
    exact ⟨rfl, KM.of_grown (grown_below hb) (by have := hc.out.lt; have := hc.lo; omega) (fun q hq => by cases hq), n, D, J, (hc.below hb).mono (Nat.le_succ N), hJR⟩
theorem rNote_all (R : List Clm) (hl : R.length ≤ 100000) (v : Value) (obj : List Nat) (ho : obj.length = 32) (hlt : ∀ y ∈ obj, y < 256) (x : Int) (t : Int) (ht0 : 0 ≤ t) (ht1 : t < 18446744073709551616) (w : World) (hR : Rw w v R) :
    Calls Tryz.prog 34 #[v, .agg (u8s obj).toArray, .int .i64 x, .int .u64 t] w fun e w' => ∃ v', e = .returned v' ∧ Rw w' v' (if 0 ≤ x ∧ x < 16 then R.filter (fNote obj x.toNat) ++ [⟨obj, x.toNat, t⟩] else R) ∧ Below w.heap.size w w' := by
  by_cases hx : 0 ≤ x ∧ x < 16
  · rw [if_pos hx]
    obtain ⟨p, rfl⟩ : ∃ p : Nat, x = (p : Int) := ⟨x.toNat, by omega⟩
    obtain ⟨a, c, rfl⟩ := hR.form
    rw [Int.toNat_natCast]
    exact rNote_ok R hl a c obj ho hlt p (by omega) t ht0 ht1 w hR
  · rw [if_neg hx]
    refine (rNote_bad v (u8s obj).toArray x hx _ w).mono ?_
    rintro e w' ⟨rfl, hb⟩
    exact ⟨v, rfl, hR.below hb, hb⟩
theorem note_len (R : List Clm) (obj : List Nat) (x t : Int) {N : Nat} (h : R.length ≤ N) : (if 0 ≤ x ∧ x < 16 then R.filter (fNote obj x.toNat) ++ [⟨obj, x.toNat, t⟩] else R).length ≤ N + 1 := by
  split
  · rw [List.length_append, List.length_singleton]
    have := List.length_filter_le (fNote obj x.toNat) R
    omega
  · omega
/-- Claimants, both forms -/
theorem Claimants_all (B N cb mb n : Nat) (D : DataW Unit) (J : Jt) (hN : N < 1000) (R : List Clm) (hJR : Rel J R) (obj : List Nat) (ho : obj.length = 32) (hlt : ∀ y ∈ obj, y < 256) (w : World) (hc : CM B w N cb mb n D J) :
    Calls Tryz.prog 37 #[.pointer (some ⟨cb, 0, none⟩), .agg (u8s obj).toArray] w fun e w' => ∃ a c, e = .returned (.slice a (memb (setL (clsI obj R)) 16).length c) ∧ Is w' (.slice a (memb (setL (clsI obj R)) 16).length c) ((memb (setL (clsI obj R)) 16).map Int.ofNat) ∧ Below w.heap.size w w' := by
  obtain ⟨kl, hkl⟩ := key_dig obj ho hlt
  cases hJ : J kl with
  | none =>
    rw [claimants_none hJR ho hlt hkl hJ]
    refine (Claimants_none obj ho kl hkl cb mb n D w hc.blk hc.out (Maps.atKey_of_not_has (hc.non kl hJ) _)).mono ?_
    rintro e w' ⟨rfl, hb⟩
    exact ⟨none, 0, rfl, ⟨none, 0, rfl, fun n h => absurd h List.not_mem_nil, fun h => absurd rfl h⟩, hb⟩
  | some a =>
    obtain ⟨ib, ni, DI⟩ := a
    have hI : InM w N ib ni DI := (hc.inn kl _ hJ).1
    have hsz : Maps.size DI ≤ 1000000 := by have := hI.own.size_le; have := hI.ni; omega
    refine (Claimants_some obj ho kl hkl cb mb ib n ni D DI w hc.blk hc.out (hc.at_ kl _ hJ .nil) hI.own hsz).mono ?_
    rintro e w' ⟨v, ss, rfl, hS, hrow, -, hb⟩
    have hm := claimants_same hJR ho hlt hkl hI (fun p hp => by rw [vj_some hJ p]; exact vw_has hI p) hS
    have hlen : ss.length = (memb (setL (clsI obj R)) 16).length := by
      have h1 := congrArg List.length hm
      rwa [List.length_mergeSort, List.length_map] at h1
    rw [hm] at hrow
    obtain ⟨a', c', rfl, -, -, hi, -, -⟩ := is_of_ownsZ (l := (memb (setL (clsI obj R)) 16).map Int.ofNat) hrow (wfN _ (fun x hx => by have := memb_lt _ _ x hx; omega))
    rw [hlen] at hi
    exact ⟨a', c', by rw [hlen], hi, hb⟩
/-- Blocked, both forms -/
theorem Blocked_all (B N cb mb n : Nat) (D : DataW Unit) (J : Jt) (R : List Clm) (hJR : Rel J R) (hOK : ∀ c ∈ R, c.Ok) (obj : List Nat) (ho : obj.length = 32) (hlt : ∀ y ∈ obj, y < 256) (self clock : Int) (hc0 : 0 ≤ clock) (hc1 : clock < 18446744073709551616) (al : Option Addr) (nl cl : Nat) (ll : List Int) (ah : Option Addr) (nh ch : Nat) (lh : List Int) (w : World) (V : Vars w shaRound shaStart) (hc : CM B w N cb mb n D J) (hil : Is w (.slice al nl cl) ll) (hnl : nl ≤ 1000000) (hih : Is w (.slice ah nh ch) lh) (hnh : nh ≤ 1000000) :
    Calls Tryz.prog 39 #[.pointer (some ⟨cb, 0, none⟩), .agg (u8s obj).toArray, .int .i64 self, .int .u64 clock, .slice al nl cl, .slice ah nh ch] w fun e w' => e = .returned (.bool (R.any (hitC obj self clock ll lh))) ∧ Below w.heap.size w w' := by
  obtain ⟨kl, hkl⟩ := key_dig obj ho hlt
  rw [← hJR.blocked hOK ho hlt hkl self clock ll lh]
  cases hJ : J kl with
  | none => exact Blocked_no obj ho hlt kl hkl B N cb mb n D J hJ self clock hc0 hc1 al nl cl ll ah nh ch lh w V hc hil hnl hih hnh
  | some a =>
    obtain ⟨ib, ni, DI⟩ := a
    exact Blocked_any obj ho hlt kl hkl B N cb mb n ib ni D DI J hJ self clock hc0 hc1 al nl cl ll ah nh ch lh w V hc hil hnl hih hnh
theorem CM.new {w : World} {cb mb : Nat} (h : Cl0 w cb mb) {B : Nat} (hB : B ≤ mb) : CM B w 0 cb mb 0 (.map []) (fun _ => none) where
  blk := h.1
  ne := h.2.2
  lo := hB
  out := h.2.1
  n := Nat.le_refl _
  non := fun _ _ => rfl
  at_ := fun _ _ e => by cases e
  inn := fun _ _ e => by cases e
  dig := fun _ _ e => by cases e
  inj := fun _ _ _ _ e => by cases e
theorem ClI.below {w w' : World} {B cb mb N : Nat} {v : Value} {R : List Clm} (h : ClI w B cb mb N v R) (b : Below w.heap.size w w') : ClI w' B cb mb N v R := by
  obtain ⟨n, D, J, h1, h2, h3, h4⟩ := h
  exact ⟨n, D, J, h1.below b, h2, h3.below b, h4⟩
theorem infoNt (q : NtQ) (h : q.od.length = 32) : (Tryz.prog.info? 45).map (·.size) = some q.cells.length := by rw [q.cells_length h]; kernel_rfl
theorem u64b {x : Int} (h : (Lit.int .u64 x).wf = true) : 0 ≤ x ∧ x < 18446744073709551616 := by
  have e1 : IntKind.u64.min = 0 := rfl
  have e2 : IntKind.u64.max = 18446744073709551615 := rfl
  simp only [Lit.wf, Bool.and_eq_true, decide_eq_true_eq] at h
  omega
set_option maxRecDepth 100000 in
set_option maxHeartbeats 16000000 in
theorem cl_walk (w : World) (V : Vars w shaRound shaStart) (Rn : Rnds w) (sa : Option Addr) (sn sc : Nat) (q : Nat → NtQ) (hS : Nts w sa sn q) :
    Calls Tryz.prog 5 #[.slice sa sn sc] w fun e w' => e = .returned (.bool true) ∧ Below w.heap.size w w' := by
  have HEND := hid (fun (wx : World) (h : Below w.heap.size w wx) => (known_pl wx (V.below h)).mono fun e w' (q : e = .returned (.bool true) ∧ Below wx.heap.size wx w') => (⟨q.1, h.trans (q.2.mono h.size)⟩ : e = .returned (.bool true) ∧ Below w.heap.size w w'))
  have HV := hid V
  have HRN := hid Rn
  have HS := hid hS
  obtain ⟨B, hB⟩ : ∃ y, y = w.heap.size := ⟨_, rfl⟩
  have HBE := hid hB
  clear V Rn hS hB
  go_enter Tryz.func5, Tryz.ntmps5
  rcases Nat.lt_or_ge 100 sn with hs0 | hs0
  · have hs0' : (100 : Int) < (sn : Int) := by omega
    go_wp2_with fail
    refine (HEND.out _ (Below.refl _ _)).mono ?_
    rintro e w4 ⟨rfl, hb4⟩
    go_wp2_with fail
    go_ret
    exact ⟨rfl, hb4⟩
  have hs0' : ¬ (100 : Int) < (sn : Int) := by omega
  go_wp2_with fail
  refine (NewClaims_any w).mono ?_
  rintro e w1 ⟨rfl, hc1, hb1⟩
  obtain ⟨cb, hcb⟩ : ∃ y, y = w.heap.size + 1 := ⟨_, rfl⟩
  obtain ⟨mb, hmb⟩ : ∃ y, y = w.heap.size := ⟨_, rfl⟩
  rw [← hcb, ← hmb] at hc1
  rw [← hcb]
  have HC1 := hid (CM.new (B := B) hc1 (by rw [HBE.out, hmb]; exact Nat.le_refl _))
  have HB1 := hid (show Below B w w1 from by rw [HBE.out]; exact hb1)
  clear hc1 hb1 hcb hmb
  have HI0 := hid (show ClI (w1.alloc (.cells #[] 134)) B cb mb 0 (.slice (some ⟨w1.heap.size, 0, none⟩) 0 0) [] from
    ⟨0, _, _, HC1.out.below ((Below.refl _ _).alloc (Nat.le_refl _) _), Rel.empty, ⟨⟨rfl, .inr ⟨w1.heap.size, 0, #[], rfl, Nat.zero_le _, heap_new _ _, Nat.le_refl _, Nat.zero_le _, rfl, rfl⟩⟩, fun c h => by cases h⟩, Nat.le_refl _⟩)
  have HB2 := hid (show Below B w (w1.alloc (.cells #[] 134)) from HB1.out.alloc (by rw [HBE.out]; have := HB1.out.size; exact this) _)
  go_wp2_with fail
  go_loopw [4, 5] (fun lv iv wx => ∃ (i : Nat) (R : List Clm), i ≤ sn ∧ iv = .int .i64 i ∧ Hid (ClI wx B cb mb i lv R) ∧ Hid (Below B w wx)) (fun _ iv _ => sn - (intOf iv).toNat)
  case atStart => exact ⟨0, [], by omega, rfl, HI0, HB2⟩
  case round =>
  clear HI0 HB2 HC1 HB1
  obtain ⟨i, R, hi, rfl, HI, HBR⟩ := hrel
  obtain ⟨wq, rfl⟩ : ∃ y : World, y = wr := ⟨_, rfl⟩
  have HBQ := hid (show Below w.heap.size w wq from by rw [← HBE.out]; exact HBR.out)
  rcases Nat.lt_or_ge i sn with hin | hin
  case inr =>
    obtain rfl : sn = i := by omega
    have hin' : ¬ (sn : Int) < (sn : Int) := by omega
    go_wp2_with fail
    refine (HEND.out _ HBQ.out).mono ?_
    rintro e w4 ⟨rfl, hb4⟩
    go_wp2_with fail
    go_ret
    exact ⟨rfl, hb4⟩
  case inl => as_aux_lemma =>
    have hin' : (i : Int) < (sn : Int) := by omega
    have hi0 : (0 : Int) ≤ (i : Int) := by omega
    obtain ⟨b, o, rfl, hbw, hcells⟩ := HS.out (by omega)
    obtain ⟨hIn, hce⟩ := hcells i hin
    obtain ⟨Q, hQ⟩ : ∃ y, y = q i := ⟨_, rfl⟩
    rw [← hQ] at hIn hce
    have HIN := hid (hIn.below HBQ.out)
    have HINW := hid hIn
    obtain ⟨G, hG⟩ : ∃ y, y = o + i * 39 := ⟨_, rfl⟩
    have HRG := hid (show wq.rangeAt b G Q.cells from fun j u hj => by
      have hl : j < 39 := by have := (List.getElem?_eq_some_iff.1 hj).1; rw [Q.cells_length HIN.out.ho] at this; exact this
      rw [hG]
      exact (HBQ.out.cell hbw).trans ((hce j hl).trans hj))
    have hG2 : o + i * 39 = G := hG.symm
    have HIQ := hid (infoNt Q HIN.out.ho)
    have HIQ2 := hid (show (Tryz.prog.info? 45).map (·.size) = some Q.cells.toArray.size from by rw [List.size_toArray]; exact infoNt Q HIN.out.ho)
    have HONE := hid (show Q.cells.toArray.all (·.oneCell') = true from all_oneCell_toArray Q.one)
    have HLQ := hid (show Q.cells.toArray.size = 39 from by rw [List.size_toArray]; exact Q.cells_length HIN.out.ho)
    clear hIn hce hQ hG hbw hcells
    go_upto_region 9 with (first
      | (refine wpList_load_mid (by rfl) 45 (.tmp 21) (by rfl) b G (by rfl) Q.cells _ HRG.out Tryz.underlying45 rfl HIQ.out ?_)
      | (refine wpList_store_row (by rfl) 45 (.tmp 6) (.tmp 22) (by rfl) wq.heap.size _ Q.cells.toArray 45 (by rfl) (by rfl) (heap_new _ _) HIQ2.out (by rw [HLQ.out]; kernel_rfl) HONE.out ?_
         intro w3 hw3 hk3))
    have hb13 : Below wq.heap.size wq w3 := ((Below.refl wq.heap.size wq).alloc (Nat.le_refl _) _).trans (hk3.below (by simp) (Nat.le_refl _))
    obtain ⟨kb, hkb⟩ : ∃ y, y = wq.heap.size := ⟨_, rfl⟩
    rw [← hkb] at hw3 ⊢
    have HW3 := hid hw3
    have HI3 := hid (HI.out.below hb13)
    have HB3 := hid (HBQ.out.trans (hb13.mono HBQ.out.size))
    have HIN3 := hid (HIN.out.below hb13)
    clear hw3 hk3 hb13 hkb HIQ HIQ2 HONE HLQ HRG HI HBR HBQ HIN hG2
    have HKC := hid (show ∀ wx : World, wx.heap[kb]? = some (.cells Q.cells.toArray 45 (0, 0)) → wx.cell? ⟨kb, 0, none⟩ = some (.int .i64 Q.kd) ∧ wx.cell? ⟨kb, 33, none⟩ = some (.int .i64 Q.pr) ∧ wx.cell? ⟨kb, 34, none⟩ = some (.int .i64 Q.sf) ∧ wx.cell? ⟨kb, 35, none⟩ = some (.int .u64 Q.ck) ∧ wx.cell? ⟨kb, 36, none⟩ = some (.int .u64 Q.nw) ∧ wx.cell? ⟨kb, 37, none⟩ = some (.slice Q.la Q.ln Q.lc) ∧ wx.cell? ⟨kb, 38, none⟩ = some (.slice Q.oa Q.on Q.oc) ∧ wx.rangeAt kb 1 (u8s Q.od) from fun wx h => by
      have ho := HIN3.out.ho
      have hc : ∀ j v, Q.cells[j]? = some v → wx.cell? ⟨kb, j, none⟩ = some v := fun j v hj => by rw [cell_of_heap h, List.getElem?_toArray]; exact hj
      refine ⟨hc 0 _ Q.at0, hc 33 _ (Q.at_ ho 0), hc 34 _ (Q.at_ ho 1), hc 35 _ (Q.at_ ho 2), hc 36 _ (Q.at_ ho 3), hc 37 _ (Q.at_ ho 4), hc 38 _ (Q.at_ ho 5), fun j u hj => hc (1 + j) u ?_⟩
      rw [Q.atD ho j (by have := (List.getElem?_eq_some_iff.1 hj).1; simp [u8s, ho] at this; exact this)]
      exact hj)
    obtain ⟨c0, c33, c34, c35, c36, c37, c38, -⟩ := HKC.out w3 HW3.out
    have HIFD := hid (infoD Q.od HIN3.out.ho)
    rcases Nat.lt_or_ge 40 Q.ln with hl0 | hl0
    · have hl0' : (40 : Int) < (Q.ln : Int) := by omega
      go_wp2_with fail
      refine (HEND.out _ HB3.out).mono ?_
      rintro e w4 ⟨rfl, hb4⟩
      go_wp2_with fail
      go_ret
      exact ⟨rfl, hb4⟩
    have hl0' : ¬ (40 : Int) < (Q.ln : Int) := by omega
    rcases Nat.lt_or_ge 40 Q.on with hl1 | hl1
    · have hl1' : (40 : Int) < (Q.on : Int) := by omega
      go_wp2_with fail
      refine (HEND.out _ HB3.out).mono ?_
      rintro e w4 ⟨rfl, hb4⟩
      go_wp2_with fail
      go_ret
      exact ⟨rfl, hb4⟩
    have hl1' : ¬ (40 : Int) < (Q.on : Int) := by omega
    go_upto_region 11 with fail
    clear c37 c38
    obtain ⟨k0, k1⟩ := u64b HIN3.out.hc
    obtain ⟨n0, n1⟩ := u64b HIN3.out.hn
    obtain ⟨n, D, J, hCM, hRel, hRw, hRl⟩ := HI3.out
    have HCM := hid hCM
    have HREL := hid hRel
    have HRW := hid hRw
    have HRL := hid hRl
    clear hCM hRel hRw hRl
    by_cases e1 : Q.kd = 1
    · as_aux_lemma =>
      have hRD := (HKC.out w3 HW3.out).2.2.2.2.2.2.2
      have HRD := hid hRD
      clear hRD
      rw [e1] at c0
      clear e1 c34 c36
      go_wp2_with (refine wpList_load_mid (by rfl) 23 (.tmp 39) (by rfl) kb 1 (by rfl) (u8s Q.od) _ HRD.out Tryz.underlying23 rfl HIFD.out ?_)
      refine (Note_all B i cb mb n D J (by omega) R HREL.out Q.od HIN3.out.ho HIN3.out.hb Q.pr Q.ck k0 k1 w3 HCM.out).mono ?_
      rintro e w4 ⟨rfl, hkm, n', D', J', hCM', hRel'⟩
      have HKM := hid hkm
      have HW4 := hid (hkm.cells HW3.out)
      have HRW4 := hid (HRW.out.km hkm)
      have HCM4 := hid hCM'
      have HREL4 := hid hRel'
      have HRL4 := hid (note_len R Q.od Q.pr Q.ck HRL.out)
      have HB4 := hid (HB3.out.trans (show Below w.heap.size w3 w4 from by rw [← HBE.out]; exact hkm.below))
      obtain ⟨d0, d33, d34, d35, d36, d37, d38, hRD4⟩ := HKC.out w4 HW4.out
      have HRD4 := hid hRD4
      have HRN4 := hid (rNote_all R (by have := HRL.out; omega) u4 Q.od HIN3.out.ho HIN3.out.hb Q.pr Q.ck k0 k1 w4 HRW4.out)
      clear hkm hCM' hRel' hRD4 c0 c33 c35 d0 d34 d36 d37 d38
      obtain ⟨R5, hR5⟩ : ∃ y, y = (if 0 ≤ Q.pr ∧ Q.pr < 16 then R.filter (fNote Q.od Q.pr.toNat) ++ [⟨Q.od, Q.pr.toNat, Q.ck⟩] else R) := ⟨_, rfl⟩
      rw [← hR5] at HREL4 HRL4 HRN4
      clear hR5
      go_wp2_with (refine wpList_load_mid (by rfl) 23 (.tmp 47) (by rfl) kb 1 (by rfl) (u8s Q.od) _ HRD4.out Tryz.underlying23 rfl HIFD.out ?_)
      refine HRN4.out.mono ?_
      rintro e w5 ⟨v5, rfl, hRw5, hb5⟩
      have HI5 := hid (show ClI w5 B cb mb (i + 1) v5 R5 from ⟨n', D', J', HCM4.out.below hb5, HREL4.out, hRw5, HRL4.out⟩)
      have HB5 := hid (HB4.out.trans (hb5.mono HB4.out.size))
      have HW5 := hid ((hb5.block _ (lt_of_heap HW4.out)).trans HW4.out)
      have HIN5 := hid (HINW.out.below HB5.out)
      clear hRw5 hb5 d33 d35
      obtain ⟨n5, D5, J5, hCM5, hRel5, hRw5, hRl5⟩ := HI5.out
      obtain ⟨ra, rc, hra⟩ := hRw5.form
      subst hra
      have HCM5 := hid hCM5
      have HREL5 := hid hRel5
      have HRW5 := hid hRw5
      have HRL5 := hid hRl5
      have HKS := hid (show ∀ wx : World, Below w5.heap.size w5 wx → (loadVar 23 ⟨kb, 1, none⟩).run Tryz.prog wx = .ok (.agg (u8s Q.od).toArray) wx ∧ wx.cell? ⟨kb, 34, none⟩ = some (.int .i64 Q.sf) ∧ wx.cell? ⟨kb, 36, none⟩ = some (.int .u64 Q.nw) ∧ wx.cell? ⟨kb, 37, none⟩ = some (.slice Q.la Q.ln Q.lc) ∧ wx.cell? ⟨kb, 38, none⟩ = some (.slice Q.oa Q.on Q.oc) from fun wx h => by
        obtain ⟨-, -, f34, -, f36, f37, f38, hr⟩ := HKC.out wx ((h.block _ (lt_of_heap HW5.out)).trans HW5.out)
        exact ⟨run_loadVar_mid (P := Tryz.prog) wx kb 1 23 (u8s Q.od) _ hr Tryz.underlying23 rfl HIFD.out, f34, f36, f37, f38⟩)
      have HVV := hid (fun (wx : World) (h : Below w5.heap.size w5 wx) => HV.out.below (HB5.out.trans (h.mono HB5.out.size)))
      have HNN := hid (fun (wx : World) (h : Below w5.heap.size w5 wx) => HRN.out.below (HB5.out.trans (h.mono HB5.out.size)))
      have HML := hid (memb_le (setL (clsI Q.od R5)) 16)
      obtain ⟨LL, hLL⟩ : ∃ y, y = (memb (setL (clsI Q.od R5)) 16) := ⟨_, rfl⟩
      have HCA := hid (fun (wx : World) (h : Below w5.heap.size w5 wx) => Claimants_all B (i + 1) cb mb n5 D5 J5 (by omega) R5 HREL5.out Q.od HIN5.out.ho HIN5.out.hb wx (HCM5.out.below h))
      have HRC := hid (fun (wx : World) (h : Below w5.heap.size w5 wx) => rClaimants_any R5 (by have := HRL5.out; omega) ra rc Q.od HIN5.out.ho wx (HRW5.out.below h))
      rw [← hLL] at HCA HRC HML
      obtain ⟨BB, hBB⟩ : ∃ y, y = R5.any (hitC Q.od Q.sf Q.nw Q.ll Q.ol) := ⟨_, rfl⟩
      have HBK := hid (fun (wx : World) (h : Below w5.heap.size w5 wx) (al : Option Addr) (cl : Nat) (ah : Option Addr) (ch : Nat) (h1 : Is wx (.slice al Q.ln cl) Q.ll) (h2 : Is wx (.slice ah Q.on ch) Q.ol) => Blocked_all B (i + 1) cb mb n5 D5 J5 R5 HREL5.out HRW5.out.2 Q.od HIN5.out.ho HIN5.out.hb Q.sf Q.nw n0 n1 al Q.ln cl Q.ll ah Q.on ch Q.ol wx (HVV.out wx h) (HCM5.out.below h) h1 (by omega) h2 (by omega))
      have HRB := hid (fun (wx : World) (h : Below w5.heap.size w5 wx) => rBlocked_any R5 (by have := HRL5.out; omega) ra rc Q.od HIN5.out.ho HIN5.out.hb Q.sf Q.nw n0 n1 Q.la Q.ln Q.lc Q.ll Q.oa Q.on Q.oc Q.ol wx (HNN.out wx h) (HRW5.out.below h) (HIN5.out.below h).hl.1 (by omega) (HIN5.out.below h).hq.1 (by omega))
      rw [← hBB] at HBK HRB
      clear hLL hBB hCM5 hRel5 hRw5 hRl5
      go_upto_region 18 with fail
      try clear c0
      obtain ⟨rn, hrn⟩ : ∃ y, y = R5.length := ⟨_, rfl⟩
      have HRNE := hid hrn
      rw [← hrn] at HRC HRB ⊢
      clear hrn
      refine wp_region_held_drew (S := (fun wx : World => (loadVar 23 ⟨kb, 1, none⟩).run Tryz.prog wx = .ok (.agg (u8s Q.od).toArray) wx ∧ wx.cell? ⟨kb, 34, none⟩ = some (.int .i64 Q.sf) ∧ wx.cell? ⟨kb, 36, none⟩ = some (.int .u64 Q.nw) ∧ wx.cell? ⟨kb, 37, none⟩ = some (.slice Q.la Q.ln Q.lc) ∧ wx.cell? ⟨kb, 38, none⟩ = some (.slice Q.oa Q.on Q.oc))) (by kernel_rfl) (HKS.out _ (bel_drewN (Below.refl w5.heap.size w5) 1)) (fun hHeld => ?_)
      refine wpAnyH_take (i := 0) (oi := { dst := some 64, op := Op.move (Operand.tmp 3), type := 40, pos := "law.go:104", after := #[], guard := none }) (v := ?_) rfl (by kernel_rfl) (by kernel_rfl) (by kernel_rfl) (fun _ _ _ h => h) (Or.inl ⟨by rfl, ?hy⟩) hHeld ?_
      case hy => (intro w hSw; (try dsimp only at hSw); obtain ⟨_, _, _, _, _⟩ := hSw; go_simp; all_goals (with_reducible rfl))
      try simp only [Act.put, List.setIfInBounds_toArray, List.set_cons_zero, List.set_cons_succ]
      refine wpAnyH_take (i := 1) (oi := { dst := some 65, op := Op.fieldAddr 45 (Operand.tmp 6) 1, type := 0, pos := "law.go:104", after := #[], guard := none }) (v := ?_) rfl (by kernel_rfl) (by kernel_rfl) (by kernel_rfl) (fun _ _ _ h => h) (Or.inl ⟨by rfl, ?hy⟩) hHeld ?_
      case hy => (intro w hSw; (try dsimp only at hSw); obtain ⟨_, _, _, _, _⟩ := hSw; go_simp; all_goals (with_reducible rfl))
      try simp only [Act.put, List.setIfInBounds_toArray, List.set_cons_zero, List.set_cons_succ]
      refine wpAnyH_take (i := 2) (oi := { dst := some 66, op := Op.load 23 (Operand.tmp 65), type := 23, pos := "law.go:104", after := #[{ on := 1, ground := Ground.data }], guard := none }) (v := .agg (u8s Q.od).toArray) rfl (by kernel_rfl) (by kernel_rfl) (by kernel_rfl) (fun _ _ _ h => h) (Or.inl ⟨by rfl, ?hy⟩) hHeld ?_
      case hy => (intro w hSw; exact run_load_opP hSw.1)
      try simp only [Act.put, List.setIfInBounds_toArray, List.set_cons_zero, List.set_cons_succ]
      refine wpAnyH_take (i := 4) (oi := { dst := some 68, op := Op.move (Operand.tmp 4), type := 42, pos := "law.go:104", after := #[], guard := none }) (v := ?_) rfl (by kernel_rfl) (by kernel_rfl) (by kernel_rfl) (fun _ _ _ h => h) (Or.inl ⟨by rfl, ?hy⟩) hHeld ?_
      case hy => (intro w hSw; (try dsimp only at hSw); obtain ⟨_, _, _, _, _⟩ := hSw; go_simp; all_goals (with_reducible rfl))
      try simp only [Act.put, List.setIfInBounds_toArray, List.set_cons_zero, List.set_cons_succ]
      refine wpAnyH_take (i := 5) (oi := { dst := some 69, op := Op.fieldAddr 45 (Operand.tmp 6) 1, type := 0, pos := "law.go:104", after := #[], guard := none }) (v := ?_) rfl (by kernel_rfl) (by kernel_rfl) (by kernel_rfl) (fun _ _ _ h => h) (Or.inl ⟨by rfl, ?hy⟩) hHeld ?_
      case hy => (intro w hSw; (try dsimp only at hSw); obtain ⟨_, _, _, _, _⟩ := hSw; go_simp; all_goals (with_reducible rfl))
      try simp only [Act.put, List.setIfInBounds_toArray, List.set_cons_zero, List.set_cons_succ]
      refine wpAnyH_take (i := 6) (oi := { dst := some 70, op := Op.load 23 (Operand.tmp 69), type := 23, pos := "law.go:104", after := #[{ on := 5, ground := Ground.data }], guard := none }) (v := .agg (u8s Q.od).toArray) rfl (by kernel_rfl) (by kernel_rfl) (by kernel_rfl) (fun _ _ _ h => h) (Or.inl ⟨by rfl, ?hy⟩) hHeld ?_
      case hy => (intro w hSw; exact run_load_opP hSw.1)
      try simp only [Act.put, List.setIfInBounds_toArray, List.set_cons_zero, List.set_cons_succ]
      refine wpAnyH_ready (rs := [3]) (by kernel_rfl) (by simp) ?_
      refine AllReadyH.cons (o := { dst := some 67, op := Op.call { callee := Callee.value (Operand.func 37), args := #[Operand.tmp 64, Operand.tmp 66], argTypes := #[40, 23] }, type := 27, pos := "law.go:104", after := #[{ on := 0, ground := Ground.data }, { on := 2, ground := Ground.data }], guard := none }) rfl (fun K hK => ?_) AllReadyH.nil
      go_simp
      refine (HCA.out _ (bel_drewN (Below.refl w5.heap.size w5) 1)).mono ?_
      rintro e w6 ⟨a6, c6, rfl, hi6, hb6⟩
      have HB6 := hid ((bel_drewN (Below.refl w5.heap.size w5) 1).trans hb6)
      have HI6 := hid hi6
      clear hi6 hb6
      clear hHeld
      go_wp2_with fail
      refine hK.out _ _ (HKS.out _ HB6.out) (fun hHeld => ?_)
      clear hK K
      try simp only [Act.put, List.setIfInBounds_toArray, List.set_cons_zero, List.set_cons_succ]
      refine wpAnyH_ready (rs := [7]) (by kernel_rfl) (by simp) ?_
      refine AllReadyH.cons (o := { dst := some 71, op := Op.call { callee := Callee.value (Operand.func 38), args := #[Operand.tmp 68, Operand.tmp 70], argTypes := #[42, 23] }, type := 27, pos := "law.go:104", after := #[{ on := 4, ground := Ground.data }, { on := 6, ground := Ground.data }, { on := 3, ground := Ground.chain }], guard := none }) rfl (fun K hK => ?_) AllReadyH.nil
      go_simp
      refine (HRC.out w6 HB6.out).mono ?_
      rintro e w7 ⟨a7, c7, rfl, hi7, hb7⟩
      have HB7 := hid (HB6.out.trans (hb7.mono HB6.out.size))
      have HI7 := hid hi7
      have HI67 := hid (HI6.out.belowP hb7)
      clear hi7 hb7
      clear hHeld
      go_wp2_with fail
      refine hK.out _ _ (HKS.out _ HB7.out) (fun hHeld => ?_)
      clear hK K
      try simp only [Act.put, List.setIfInBounds_toArray, List.set_cons_zero, List.set_cons_succ]
      refine wpAnyH_ready (rs := [8]) (by kernel_rfl) (by simp) ?_
      refine AllReadyH.cons (o := { dst := some 72, op := Op.call { callee := Callee.value (Operand.func 19), args := #[Operand.tmp 67, Operand.tmp 71], argTypes := #[27, 27] }, type := 4, pos := "law.go:104", after := #[{ on := 3, ground := Ground.data }, { on := 7, ground := Ground.data }, { on := 7, ground := Ground.chain }], guard := none }) rfl (fun K hK => ?_) AllReadyH.nil
      go_simp
      have hsm := same_any a6 _ c6 _ a7 _ c7 _ w7 HI67.out HI7.out (by have := HML.out; omega) (by have := HML.out; omega)
      rw [decide_eq_true rfl] at hsm
      refine hsm.mono ?_
      rintro e w8 ⟨rfl, hb8⟩
      have HB8 := hid (HB7.out.trans (hb8.mono HB7.out.size))
      clear hb8 hsm
      clear hHeld
      go_wp2_with fail
      refine hK.out _ _ (HKS.out _ HB8.out) (fun hHeld => ?_)
      clear hK K
      try simp only [Act.put, List.setIfInBounds_toArray, List.set_cons_zero, List.set_cons_succ]
      refine wpAnyH_take (i := 9) (oi := { dst := some 73, op := Op.unOp UnOp.not 4 (Operand.tmp 72), type := 4, pos := "law.go:104", after := #[{ on := 8, ground := Ground.data }], guard := none }) (v := ?_) rfl (by kernel_rfl) (by kernel_rfl) (by kernel_rfl) (fun _ _ _ h => h) (Or.inl ⟨by rfl, ?hy⟩) hHeld ?_
      case hy => (intro w hSw; (try dsimp only at hSw); obtain ⟨_, _, _, _, _⟩ := hSw; go_simp; all_goals (with_reducible rfl))
      try simp only [Act.put, List.setIfInBounds_toArray, List.set_cons_zero, List.set_cons_succ]
      refine wpAnyH_take (i := 10) (oi := { dst := some 74, op := Op.move (Operand.tmp 73), type := 4, pos := "law.go:104", after := #[{ on := 9, ground := Ground.data }, { on := 8, ground := Ground.chain }], guard := none }) (v := ?_) rfl (by kernel_rfl) (by kernel_rfl) (by kernel_rfl) (fun _ _ _ h => h) (Or.inl ⟨by rfl, ?hy⟩) hHeld ?_
      case hy => (intro w hSw; (try dsimp only at hSw); obtain ⟨_, _, _, _, _⟩ := hSw; go_simp; all_goals (with_reducible rfl))
      try simp only [Act.put, List.setIfInBounds_toArray, List.set_cons_zero, List.set_cons_succ]
      refine wpAnyH_take (i := 11) (oi := { dst := some 75, op := Op.move (Operand.tmp 3), type := 40, pos := "law.go:104", after := #[{ on := 10, ground := Ground.guard }], guard := some (10, false) }) (v := ?_) rfl (by kernel_rfl) (by kernel_rfl) (by kernel_rfl) (fun _ _ _ h => h) (Or.inl ⟨by rfl, ?hy⟩) hHeld ?_
      case hy => (intro w hSw; (try dsimp only at hSw); obtain ⟨_, _, _, _, _⟩ := hSw; go_simp; all_goals (with_reducible rfl))
      try simp only [Act.put, List.setIfInBounds_toArray, List.set_cons_zero, List.set_cons_succ]
      refine wpAnyH_take (i := 12) (oi := { dst := some 76, op := Op.fieldAddr 45 (Operand.tmp 6) 1, type := 0, pos := "law.go:104", after := #[{ on := 10, ground := Ground.guard }], guard := some (10, false) }) (v := ?_) rfl (by kernel_rfl) (by kernel_rfl) (by kernel_rfl) (fun _ _ _ h => h) (Or.inl ⟨by rfl, ?hy⟩) hHeld ?_
      case hy => (intro w hSw; (try dsimp only at hSw); obtain ⟨_, _, _, _, _⟩ := hSw; go_simp; all_goals (with_reducible rfl))
      try simp only [Act.put, List.setIfInBounds_toArray, List.set_cons_zero, List.set_cons_succ]
      refine wpAnyH_take (i := 13) (oi := { dst := some 77, op := Op.load 23 (Operand.tmp 76), type := 23, pos := "law.go:104", after := #[{ on := 12, ground := Ground.data }, { on := 10, ground := Ground.guard }], guard := some (10, false) }) (v := .agg (u8s Q.od).toArray) rfl (by kernel_rfl) (by kernel_rfl) (by kernel_rfl) (fun _ _ _ h => h) (Or.inl ⟨by rfl, ?hy⟩) hHeld ?_
      case hy => (intro w hSw; exact run_load_opP hSw.1)
      try simp only [Act.put, List.setIfInBounds_toArray, List.set_cons_zero, List.set_cons_succ]
      refine wpAnyH_take (i := 14) (oi := { dst := some 78, op := Op.fieldAddr 45 (Operand.tmp 6) 3, type := 0, pos := "law.go:104", after := #[{ on := 10, ground := Ground.guard }], guard := some (10, false) }) (v := ?_) rfl (by kernel_rfl) (by kernel_rfl) (by kernel_rfl) (fun _ _ _ h => h) (Or.inl ⟨by rfl, ?hy⟩) hHeld ?_
      case hy => (intro w hSw; (try dsimp only at hSw); obtain ⟨_, _, _, _, _⟩ := hSw; go_simp; all_goals (with_reducible rfl))
      try simp only [Act.put, List.setIfInBounds_toArray, List.set_cons_zero, List.set_cons_succ]
      refine wpAnyH_take (i := 15) (oi := { dst := some 79, op := Op.load 3 (Operand.tmp 78), type := 3, pos := "law.go:104", after := #[{ on := 14, ground := Ground.data }, { on := 10, ground := Ground.guard }], guard := some (10, false) }) (v := ?_) rfl (by kernel_rfl) (by kernel_rfl) (by kernel_rfl) (fun _ _ _ h => h) (Or.inl ⟨by rfl, ?hy⟩) hHeld ?_
      case hy => (intro w hSw; (try dsimp only at hSw); obtain ⟨_, _, _, _, _⟩ := hSw; go_simp; all_goals (with_reducible rfl))
      try simp only [Act.put, List.setIfInBounds_toArray, List.set_cons_zero, List.set_cons_succ]
      refine wpAnyH_take (i := 16) (oi := { dst := some 80, op := Op.fieldAddr 45 (Operand.tmp 6) 5, type := 0, pos := "law.go:104", after := #[{ on := 10, ground := Ground.guard }], guard := some (10, false) }) (v := ?_) rfl (by kernel_rfl) (by kernel_rfl) (by kernel_rfl) (fun _ _ _ h => h) (Or.inl ⟨by rfl, ?hy⟩) hHeld ?_
      case hy => (intro w hSw; (try dsimp only at hSw); obtain ⟨_, _, _, _, _⟩ := hSw; go_simp; all_goals (with_reducible rfl))
      try simp only [Act.put, List.setIfInBounds_toArray, List.set_cons_zero, List.set_cons_succ]
      refine wpAnyH_take (i := 17) (oi := { dst := some 81, op := Op.load 43 (Operand.tmp 80), type := 43, pos := "law.go:104", after := #[{ on := 16, ground := Ground.data }, { on := 10, ground := Ground.guard }], guard := some (10, false) }) (v := ?_) rfl (by kernel_rfl) (by kernel_rfl) (by kernel_rfl) (fun _ _ _ h => h) (Or.inl ⟨by rfl, ?hy⟩) hHeld ?_
      case hy => (intro w hSw; (try dsimp only at hSw); obtain ⟨_, _, _, _, _⟩ := hSw; go_simp; all_goals (with_reducible rfl))
      try simp only [Act.put, List.setIfInBounds_toArray, List.set_cons_zero, List.set_cons_succ]
      refine wpAnyH_take (i := 18) (oi := { dst := some 82, op := Op.fieldAddr 45 (Operand.tmp 6) 6, type := 0, pos := "law.go:104", after := #[{ on := 10, ground := Ground.guard }], guard := some (10, false) }) (v := ?_) rfl (by kernel_rfl) (by kernel_rfl) (by kernel_rfl) (fun _ _ _ h => h) (Or.inl ⟨by rfl, ?hy⟩) hHeld ?_
      case hy => (intro w hSw; (try dsimp only at hSw); obtain ⟨_, _, _, _, _⟩ := hSw; go_simp; all_goals (with_reducible rfl))
      try simp only [Act.put, List.setIfInBounds_toArray, List.set_cons_zero, List.set_cons_succ]
      refine wpAnyH_take (i := 19) (oi := { dst := some 83, op := Op.load 27 (Operand.tmp 82), type := 27, pos := "law.go:104", after := #[{ on := 18, ground := Ground.data }, { on := 10, ground := Ground.guard }], guard := some (10, false) }) (v := ?_) rfl (by kernel_rfl) (by kernel_rfl) (by kernel_rfl) (fun _ _ _ h => h) (Or.inl ⟨by rfl, ?hy⟩) hHeld ?_
      case hy => (intro w hSw; (try dsimp only at hSw); obtain ⟨_, _, _, _, _⟩ := hSw; go_simp; all_goals (with_reducible rfl))
      try simp only [Act.put, List.setIfInBounds_toArray, List.set_cons_zero, List.set_cons_succ]
      refine wpAnyH_take (i := 21) (oi := { dst := some 85, op := Op.fieldAddr 45 (Operand.tmp 6) 7, type := 0, pos := "law.go:104", after := #[{ on := 10, ground := Ground.guard }], guard := some (10, false) }) (v := ?_) rfl (by kernel_rfl) (by kernel_rfl) (by kernel_rfl) (fun _ _ _ h => h) (Or.inl ⟨by rfl, ?hy⟩) hHeld ?_
      case hy => (intro w hSw; (try dsimp only at hSw); obtain ⟨_, _, _, _, _⟩ := hSw; go_simp; all_goals (with_reducible rfl))
      try simp only [Act.put, List.setIfInBounds_toArray, List.set_cons_zero, List.set_cons_succ]
      refine wpAnyH_take (i := 22) (oi := { dst := some 86, op := Op.load 27 (Operand.tmp 85), type := 27, pos := "law.go:104", after := #[{ on := 21, ground := Ground.data }, { on := 10, ground := Ground.guard }], guard := some (10, false) }) (v := ?_) rfl (by kernel_rfl) (by kernel_rfl) (by kernel_rfl) (fun _ _ _ h => h) (Or.inl ⟨by rfl, ?hy⟩) hHeld ?_
      case hy => (intro w hSw; (try dsimp only at hSw); obtain ⟨_, _, _, _, _⟩ := hSw; go_simp; all_goals (with_reducible rfl))
      try simp only [Act.put, List.setIfInBounds_toArray, List.set_cons_zero, List.set_cons_succ]
      refine wpAnyH_take (i := 25) (oi := { dst := some 89, op := Op.move (Operand.tmp 4), type := 42, pos := "law.go:104", after := #[{ on := 10, ground := Ground.guard }], guard := some (10, false) }) (v := ?_) rfl (by kernel_rfl) (by kernel_rfl) (by kernel_rfl) (fun _ _ _ h => h) (Or.inl ⟨by rfl, ?hy⟩) hHeld ?_
      case hy => (intro w hSw; (try dsimp only at hSw); obtain ⟨_, _, _, _, _⟩ := hSw; go_simp; all_goals (with_reducible rfl))
      try simp only [Act.put, List.setIfInBounds_toArray, List.set_cons_zero, List.set_cons_succ]
      refine wpAnyH_take (i := 26) (oi := { dst := some 90, op := Op.fieldAddr 45 (Operand.tmp 6) 1, type := 0, pos := "law.go:104", after := #[{ on := 10, ground := Ground.guard }], guard := some (10, false) }) (v := ?_) rfl (by kernel_rfl) (by kernel_rfl) (by kernel_rfl) (fun _ _ _ h => h) (Or.inl ⟨by rfl, ?hy⟩) hHeld ?_
      case hy => (intro w hSw; (try dsimp only at hSw); obtain ⟨_, _, _, _, _⟩ := hSw; go_simp; all_goals (with_reducible rfl))
      try simp only [Act.put, List.setIfInBounds_toArray, List.set_cons_zero, List.set_cons_succ]
      refine wpAnyH_take (i := 27) (oi := { dst := some 91, op := Op.load 23 (Operand.tmp 90), type := 23, pos := "law.go:104", after := #[{ on := 26, ground := Ground.data }, { on := 10, ground := Ground.guard }], guard := some (10, false) }) (v := .agg (u8s Q.od).toArray) rfl (by kernel_rfl) (by kernel_rfl) (by kernel_rfl) (fun _ _ _ h => h) (Or.inl ⟨by rfl, ?hy⟩) hHeld ?_
      case hy => (intro w hSw; exact run_load_opP hSw.1)
      try simp only [Act.put, List.setIfInBounds_toArray, List.set_cons_zero, List.set_cons_succ]
      refine wpAnyH_take (i := 28) (oi := { dst := some 92, op := Op.fieldAddr 45 (Operand.tmp 6) 3, type := 0, pos := "law.go:104", after := #[{ on := 10, ground := Ground.guard }], guard := some (10, false) }) (v := ?_) rfl (by kernel_rfl) (by kernel_rfl) (by kernel_rfl) (fun _ _ _ h => h) (Or.inl ⟨by rfl, ?hy⟩) hHeld ?_
      case hy => (intro w hSw; (try dsimp only at hSw); obtain ⟨_, _, _, _, _⟩ := hSw; go_simp; all_goals (with_reducible rfl))
      try simp only [Act.put, List.setIfInBounds_toArray, List.set_cons_zero, List.set_cons_succ]
      refine wpAnyH_take (i := 29) (oi := { dst := some 93, op := Op.load 3 (Operand.tmp 92), type := 3, pos := "law.go:104", after := #[{ on := 28, ground := Ground.data }, { on := 10, ground := Ground.guard }], guard := some (10, false) }) (v := ?_) rfl (by kernel_rfl) (by kernel_rfl) (by kernel_rfl) (fun _ _ _ h => h) (Or.inl ⟨by rfl, ?hy⟩) hHeld ?_
      case hy => (intro w hSw; (try dsimp only at hSw); obtain ⟨_, _, _, _, _⟩ := hSw; go_simp; all_goals (with_reducible rfl))
      try simp only [Act.put, List.setIfInBounds_toArray, List.set_cons_zero, List.set_cons_succ]
      refine wpAnyH_take (i := 30) (oi := { dst := some 94, op := Op.fieldAddr 45 (Operand.tmp 6) 5, type := 0, pos := "law.go:104", after := #[{ on := 10, ground := Ground.guard }], guard := some (10, false) }) (v := ?_) rfl (by kernel_rfl) (by kernel_rfl) (by kernel_rfl) (fun _ _ _ h => h) (Or.inl ⟨by rfl, ?hy⟩) hHeld ?_
      case hy => (intro w hSw; (try dsimp only at hSw); obtain ⟨_, _, _, _, _⟩ := hSw; go_simp; all_goals (with_reducible rfl))
      try simp only [Act.put, List.setIfInBounds_toArray, List.set_cons_zero, List.set_cons_succ]
      refine wpAnyH_take (i := 31) (oi := { dst := some 95, op := Op.load 43 (Operand.tmp 94), type := 43, pos := "law.go:104", after := #[{ on := 30, ground := Ground.data }, { on := 10, ground := Ground.guard }], guard := some (10, false) }) (v := ?_) rfl (by kernel_rfl) (by kernel_rfl) (by kernel_rfl) (fun _ _ _ h => h) (Or.inl ⟨by rfl, ?hy⟩) hHeld ?_
      case hy => (intro w hSw; (try dsimp only at hSw); obtain ⟨_, _, _, _, _⟩ := hSw; go_simp; all_goals (with_reducible rfl))
      try simp only [Act.put, List.setIfInBounds_toArray, List.set_cons_zero, List.set_cons_succ]
      refine wpAnyH_take (i := 32) (oi := { dst := some 96, op := Op.fieldAddr 45 (Operand.tmp 6) 6, type := 0, pos := "law.go:104", after := #[{ on := 10, ground := Ground.guard }], guard := some (10, false) }) (v := ?_) rfl (by kernel_rfl) (by kernel_rfl) (by kernel_rfl) (fun _ _ _ h => h) (Or.inl ⟨by rfl, ?hy⟩) hHeld ?_
      case hy => (intro w hSw; (try dsimp only at hSw); obtain ⟨_, _, _, _, _⟩ := hSw; go_simp; all_goals (with_reducible rfl))
      try simp only [Act.put, List.setIfInBounds_toArray, List.set_cons_zero, List.set_cons_succ]
      refine wpAnyH_take (i := 33) (oi := { dst := some 97, op := Op.load 27 (Operand.tmp 96), type := 27, pos := "law.go:104", after := #[{ on := 32, ground := Ground.data }, { on := 10, ground := Ground.guard }], guard := some (10, false) }) (v := ?_) rfl (by kernel_rfl) (by kernel_rfl) (by kernel_rfl) (fun _ _ _ h => h) (Or.inl ⟨by rfl, ?hy⟩) hHeld ?_
      case hy => (intro w hSw; (try dsimp only at hSw); obtain ⟨_, _, _, _, _⟩ := hSw; go_simp; all_goals (with_reducible rfl))
      try simp only [Act.put, List.setIfInBounds_toArray, List.set_cons_zero, List.set_cons_succ]
      refine wpAnyH_take (i := 34) (oi := { dst := some 98, op := Op.fieldAddr 45 (Operand.tmp 6) 7, type := 0, pos := "law.go:104", after := #[{ on := 10, ground := Ground.guard }], guard := some (10, false) }) (v := ?_) rfl (by kernel_rfl) (by kernel_rfl) (by kernel_rfl) (fun _ _ _ h => h) (Or.inl ⟨by rfl, ?hy⟩) hHeld ?_
      case hy => (intro w hSw; (try dsimp only at hSw); obtain ⟨_, _, _, _, _⟩ := hSw; go_simp; all_goals (with_reducible rfl))
      try simp only [Act.put, List.setIfInBounds_toArray, List.set_cons_zero, List.set_cons_succ]
      refine wpAnyH_take (i := 35) (oi := { dst := some 99, op := Op.load 27 (Operand.tmp 98), type := 27, pos := "law.go:104", after := #[{ on := 34, ground := Ground.data }, { on := 10, ground := Ground.guard }], guard := some (10, false) }) (v := ?_) rfl (by kernel_rfl) (by kernel_rfl) (by kernel_rfl) (fun _ _ _ h => h) (Or.inl ⟨by rfl, ?hy⟩) hHeld ?_
      case hy => (intro w hSw; (try dsimp only at hSw); obtain ⟨_, _, _, _, _⟩ := hSw; go_simp; all_goals (with_reducible rfl))
      try simp only [Act.put, List.setIfInBounds_toArray, List.set_cons_zero, List.set_cons_succ]
      refine wpAnyH_ready (rs := [20]) (by kernel_rfl) (by simp) ?_
      refine AllReadyH.cons (o := { dst := some 84, op := Op.call { callee := Callee.value (Operand.func 23), args := #[Operand.tmp 83], argTypes := #[27] }, type := 27, pos := "law.go:104", after := #[{ on := 19, ground := Ground.data }, { on := 10, ground := Ground.chain }, { on := 10, ground := Ground.guard }], guard := some (10, false) }) rfl (fun K hK => ?_) AllReadyH.nil
      go_simp
      refine (ints_any Q.la Q.ln Q.lc Q.ll w8 (HIN5.out.below HB8.out).hl.1 HIN5.out.hl.2.2 HIN5.out.hl.2.1 (by omega)).mono ?_
      rintro e w9 ⟨a9, c9, rfl, hi9, -, -, -, hb9⟩
      have HB9 := hid (HB8.out.trans (hb9.mono HB8.out.size))
      have HI9 := hid hi9
      clear hi9 hb9
      clear hHeld
      go_wp2_with fail
      refine hK.out _ _ (HKS.out _ HB9.out) (fun hHeld => ?_)
      clear hK K
      try simp only [Act.put, List.setIfInBounds_toArray, List.set_cons_zero, List.set_cons_succ]
      refine wpAnyH_ready (rs := [23]) (by kernel_rfl) (by simp) ?_
      refine AllReadyH.cons (o := { dst := some 87, op := Op.call { callee := Callee.value (Operand.func 23), args := #[Operand.tmp 86], argTypes := #[27] }, type := 27, pos := "law.go:104", after := #[{ on := 22, ground := Ground.data }, { on := 20, ground := Ground.chain }, { on := 10, ground := Ground.guard }], guard := some (10, false) }) rfl (fun K hK => ?_) AllReadyH.nil
      go_simp
      refine (ints_any Q.oa Q.on Q.oc Q.ol w9 (HIN5.out.below HB9.out).hq.1 HIN5.out.hq.2.2 HIN5.out.hq.2.1 (by omega)).mono ?_
      rintro e w10 ⟨a10, c10, rfl, hi10, -, -, -, hb10⟩
      have HB10 := hid (HB9.out.trans (hb10.mono HB9.out.size))
      have HI10 := hid hi10
      have HI910 := hid (HI9.out.belowP hb10)
      clear hi10 hb10
      clear hHeld
      go_wp2_with fail
      refine hK.out _ _ (HKS.out _ HB10.out) (fun hHeld => ?_)
      clear hK K
      try simp only [Act.put, List.setIfInBounds_toArray, List.set_cons_zero, List.set_cons_succ]
      refine wpAnyH_ready (rs := [24]) (by kernel_rfl) (by simp) ?_
      refine AllReadyH.cons (o := { dst := some 88, op := Op.call { callee := Callee.value (Operand.func 39), args := #[Operand.tmp 75, Operand.tmp 77, Operand.tmp 79, Operand.tmp 81, Operand.tmp 84, Operand.tmp 87], argTypes := #[40, 23, 3, 43, 27, 27] }, type := 4, pos := "law.go:104", after := #[{ on := 11, ground := Ground.data }, { on := 13, ground := Ground.data }, { on := 15, ground := Ground.data }, { on := 17, ground := Ground.data }, { on := 20, ground := Ground.data }, { on := 23, ground := Ground.data }, { on := 23, ground := Ground.chain }, { on := 10, ground := Ground.guard }], guard := some (10, false) }) rfl (fun K hK => ?_) AllReadyH.nil
      go_simp
      refine (HBK.out w10 HB10.out a9 c9 a10 c10 HI910.out HI10.out).mono ?_
      rintro e w11 ⟨rfl, hb11⟩
      have HB11 := hid (HB10.out.trans (hb11.mono HB10.out.size))
      clear hb11
      clear hHeld
      go_wp2_with fail
      refine hK.out _ _ (HKS.out _ HB11.out) (fun hHeld => ?_)
      clear hK K
      try simp only [Act.put, List.setIfInBounds_toArray, List.set_cons_zero, List.set_cons_succ]
      refine wpAnyH_ready (rs := [36]) (by kernel_rfl) (by simp) ?_
      refine AllReadyH.cons (o := { dst := some 100, op := Op.call { callee := Callee.value (Operand.func 40), args := #[Operand.tmp 89, Operand.tmp 91, Operand.tmp 93, Operand.tmp 95, Operand.tmp 97, Operand.tmp 99], argTypes := #[42, 23, 3, 43, 27, 27] }, type := 4, pos := "law.go:104", after := #[{ on := 25, ground := Ground.data }, { on := 27, ground := Ground.data }, { on := 29, ground := Ground.data }, { on := 31, ground := Ground.data }, { on := 33, ground := Ground.data }, { on := 35, ground := Ground.data }, { on := 24, ground := Ground.chain }, { on := 10, ground := Ground.guard }], guard := some (10, false) }) rfl (fun K hK => ?_) AllReadyH.nil
      go_simp
      refine (HRB.out w11 HB11.out).mono ?_
      rintro e w12 ⟨rfl, hb12⟩
      have HB12 := hid (HB11.out.trans (hb12.mono HB11.out.size))
      clear hb12
      clear hHeld
      go_wp2_with fail
      refine hK.out _ _ (HKS.out _ HB12.out) (fun hHeld => ?_)
      clear hK K
      try simp only [Act.put, List.setIfInBounds_toArray, List.set_cons_zero, List.set_cons_succ]
      refine wpAnyH_take (i := 37) (oi := { dst := some 101, op := Op.binOp BinOp.neq 4 (Operand.tmp 88) (Operand.tmp 100) 4, type := 4, pos := "law.go:104", after := #[{ on := 24, ground := Ground.data }, { on := 36, ground := Ground.data }, { on := 10, ground := Ground.guard }], guard := some (10, false) }) (v := ?_) rfl (by kernel_rfl) (by kernel_rfl) (by kernel_rfl) (fun _ _ _ h => h) (Or.inl ⟨by rfl, ?hy⟩) hHeld ?_
      case hy => (intro w hSw; (try dsimp only at hSw); obtain ⟨_, _, _, _, _⟩ := hSw; go_simp; all_goals (with_reducible rfl))
      try simp only [Act.put, List.setIfInBounds_toArray, List.set_cons_zero, List.set_cons_succ]
      refine wpAnyH_take (i := 38) (oi := { dst := some 102, op := Op.pick (Operand.tmp 74) (Operand.const (Value.bool true)) (Operand.tmp 101), type := 4, pos := "law.go:104", after := #[{ on := 10, ground := Ground.data }, { on := 37, ground := Ground.data }], guard := none }) (v := ?_) rfl (by kernel_rfl) (by kernel_rfl) (by kernel_rfl) (fun _ _ _ h => h) (Or.inl ⟨by rfl, ?hy⟩) hHeld ?_
      case hy => (intro w hSw; (try dsimp only at hSw); obtain ⟨_, _, _, _, _⟩ := hSw; go_simp; all_goals (with_reducible rfl))
      try simp only [Act.put, List.setIfInBounds_toArray, List.set_cons_zero, List.set_cons_succ]
      refine wpAnyH_done (by kernel_rfl) ?_ _
      have HI12 := hid (show ClI w12 B cb mb (i + 1) (.slice ra rn rc) R5 from by rw [HRNE.out]; exact HI5.out.below HB12.out)
      have HB12W := hid (show Below B w w12 from by rw [HBE.out]; exact HB5.out.trans (HB12.out.mono HB5.out.size))
      go_wp2_with fail
      exact ⟨⟨i + 1, R5, by omega, by go_num, HI12, HB12W⟩, by simp [intOf]; omega⟩
    by_cases e2 : Q.kd = 2
    · as_aux_lemma =>
      rw [e2] at c0
      clear e1 e2 c33 c34 c36
      go_wp2_with fail
      refine (Sweep_any B i cb mb n D J Q.ck k0 k1 w3 HCM.out).mono ?_
      rintro e w4 ⟨rfl, hkm, D', J', hCM', hv'⟩
      have HKM := hid hkm
      have HW4 := hid (hkm.cells HW3.out)
      have HRW4 := hid (HRW.out.km hkm)
      have HCM4 := hid (hCM'.mono (Nat.le_succ i))
      have HREL4 := hid (HREL.out.sweep hv')
      have HB4 := hid (HB3.out.trans (show Below w.heap.size w3 w4 from by rw [← HBE.out]; exact hkm.below))
      obtain ⟨d0, d33, d34, d35, d36, d37, d38, -⟩ := HKC.out w4 HW4.out
      obtain ⟨va, vc, hva⟩ := HRW4.out.form
      rw [hva] at HRW4
      have HRN4 := hid (rSweep_any R (by have := HRL.out; omega) va vc Q.ck k0 k1 w4 HRW4.out)
      have HRL4 := hid (show (R.filter fun c => curr c.t Q.ck).length ≤ i + 1 from by have := List.length_filter_le (fun c => curr c.t Q.ck) R; have := HRL.out; omega)
      subst hva
      clear hkm hCM' hv' c0 c35 d0 d33 d34 d36 d37 d38
      obtain ⟨R5, hR5⟩ : ∃ y, y = R.filter fun c => curr c.t Q.ck := ⟨_, rfl⟩
      rw [← hR5] at HREL4 HRL4 HRN4
      clear hR5
      go_wp2_with fail
      refine HRN4.out.mono ?_
      rintro e w5 ⟨v5, rfl, hRw5, hb5⟩
      have HI5 := hid (show ClI w5 B cb mb (i + 1) v5 R5 from ⟨n, D', J', HCM4.out.below hb5, HREL4.out, hRw5, HRL4.out⟩)
      have HB5 := hid (HB4.out.trans (hb5.mono HB4.out.size))
      have HW5 := hid ((hb5.block _ (lt_of_heap HW4.out)).trans HW4.out)
      have HIN5 := hid (HINW.out.below HB5.out)
      clear hRw5 hb5 d35
      obtain ⟨n5, D5, J5, hCM5, hRel5, hRw5, hRl5⟩ := HI5.out
      obtain ⟨ra, rc, hra⟩ := hRw5.form
      subst hra
      have HCM5 := hid hCM5
      have HREL5 := hid hRel5
      have HRW5 := hid hRw5
      have HRL5 := hid hRl5
      have HKS := hid (show ∀ wx : World, Below w5.heap.size w5 wx → (loadVar 23 ⟨kb, 1, none⟩).run Tryz.prog wx = .ok (.agg (u8s Q.od).toArray) wx ∧ wx.cell? ⟨kb, 34, none⟩ = some (.int .i64 Q.sf) ∧ wx.cell? ⟨kb, 36, none⟩ = some (.int .u64 Q.nw) ∧ wx.cell? ⟨kb, 37, none⟩ = some (.slice Q.la Q.ln Q.lc) ∧ wx.cell? ⟨kb, 38, none⟩ = some (.slice Q.oa Q.on Q.oc) from fun wx h => by
        obtain ⟨-, -, f34, -, f36, f37, f38, hr⟩ := HKC.out wx ((h.block _ (lt_of_heap HW5.out)).trans HW5.out)
        exact ⟨run_loadVar_mid (P := Tryz.prog) wx kb 1 23 (u8s Q.od) _ hr Tryz.underlying23 rfl HIFD.out, f34, f36, f37, f38⟩)
      have HVV := hid (fun (wx : World) (h : Below w5.heap.size w5 wx) => HV.out.below (HB5.out.trans (h.mono HB5.out.size)))
      have HNN := hid (fun (wx : World) (h : Below w5.heap.size w5 wx) => HRN.out.below (HB5.out.trans (h.mono HB5.out.size)))
      have HML := hid (memb_le (setL (clsI Q.od R5)) 16)
      obtain ⟨LL, hLL⟩ : ∃ y, y = (memb (setL (clsI Q.od R5)) 16) := ⟨_, rfl⟩
      have HCA := hid (fun (wx : World) (h : Below w5.heap.size w5 wx) => Claimants_all B (i + 1) cb mb n5 D5 J5 (by omega) R5 HREL5.out Q.od HIN5.out.ho HIN5.out.hb wx (HCM5.out.below h))
      have HRC := hid (fun (wx : World) (h : Below w5.heap.size w5 wx) => rClaimants_any R5 (by have := HRL5.out; omega) ra rc Q.od HIN5.out.ho wx (HRW5.out.below h))
      rw [← hLL] at HCA HRC HML
      obtain ⟨BB, hBB⟩ : ∃ y, y = R5.any (hitC Q.od Q.sf Q.nw Q.ll Q.ol) := ⟨_, rfl⟩
      have HBK := hid (fun (wx : World) (h : Below w5.heap.size w5 wx) (al : Option Addr) (cl : Nat) (ah : Option Addr) (ch : Nat) (h1 : Is wx (.slice al Q.ln cl) Q.ll) (h2 : Is wx (.slice ah Q.on ch) Q.ol) => Blocked_all B (i + 1) cb mb n5 D5 J5 R5 HREL5.out HRW5.out.2 Q.od HIN5.out.ho HIN5.out.hb Q.sf Q.nw n0 n1 al Q.ln cl Q.ll ah Q.on ch Q.ol wx (HVV.out wx h) (HCM5.out.below h) h1 (by omega) h2 (by omega))
      have HRB := hid (fun (wx : World) (h : Below w5.heap.size w5 wx) => rBlocked_any R5 (by have := HRL5.out; omega) ra rc Q.od HIN5.out.ho HIN5.out.hb Q.sf Q.nw n0 n1 Q.la Q.ln Q.lc Q.ll Q.oa Q.on Q.oc Q.ol wx (HNN.out wx h) (HRW5.out.below h) (HIN5.out.below h).hl.1 (by omega) (HIN5.out.below h).hq.1 (by omega))
      rw [← hBB] at HBK HRB
      clear hLL hBB hCM5 hRel5 hRw5 hRl5
      go_upto_region 18 with fail
      try clear c0
      obtain ⟨rn, hrn⟩ : ∃ y, y = R5.length := ⟨_, rfl⟩
      have HRNE := hid hrn
      rw [← hrn] at HRC HRB ⊢
      clear hrn
      refine wp_region_held_drew (S := (fun wx : World => (loadVar 23 ⟨kb, 1, none⟩).run Tryz.prog wx = .ok (.agg (u8s Q.od).toArray) wx ∧ wx.cell? ⟨kb, 34, none⟩ = some (.int .i64 Q.sf) ∧ wx.cell? ⟨kb, 36, none⟩ = some (.int .u64 Q.nw) ∧ wx.cell? ⟨kb, 37, none⟩ = some (.slice Q.la Q.ln Q.lc) ∧ wx.cell? ⟨kb, 38, none⟩ = some (.slice Q.oa Q.on Q.oc))) (by kernel_rfl) (HKS.out _ (bel_drewN (Below.refl w5.heap.size w5) 1)) (fun hHeld => ?_)
      refine wpAnyH_take (i := 0) (oi := { dst := some 64, op := Op.move (Operand.tmp 3), type := 40, pos := "law.go:104", after := #[], guard := none }) (v := ?_) rfl (by kernel_rfl) (by kernel_rfl) (by kernel_rfl) (fun _ _ _ h => h) (Or.inl ⟨by rfl, ?hy⟩) hHeld ?_
      case hy => (intro w hSw; (try dsimp only at hSw); obtain ⟨_, _, _, _, _⟩ := hSw; go_simp; all_goals (with_reducible rfl))
      try simp only [Act.put, List.setIfInBounds_toArray, List.set_cons_zero, List.set_cons_succ]
      refine wpAnyH_take (i := 1) (oi := { dst := some 65, op := Op.fieldAddr 45 (Operand.tmp 6) 1, type := 0, pos := "law.go:104", after := #[], guard := none }) (v := ?_) rfl (by kernel_rfl) (by kernel_rfl) (by kernel_rfl) (fun _ _ _ h => h) (Or.inl ⟨by rfl, ?hy⟩) hHeld ?_
      case hy => (intro w hSw; (try dsimp only at hSw); obtain ⟨_, _, _, _, _⟩ := hSw; go_simp; all_goals (with_reducible rfl))
      try simp only [Act.put, List.setIfInBounds_toArray, List.set_cons_zero, List.set_cons_succ]
      refine wpAnyH_take (i := 2) (oi := { dst := some 66, op := Op.load 23 (Operand.tmp 65), type := 23, pos := "law.go:104", after := #[{ on := 1, ground := Ground.data }], guard := none }) (v := .agg (u8s Q.od).toArray) rfl (by kernel_rfl) (by kernel_rfl) (by kernel_rfl) (fun _ _ _ h => h) (Or.inl ⟨by rfl, ?hy⟩) hHeld ?_
      case hy => (intro w hSw; exact run_load_opP hSw.1)
      try simp only [Act.put, List.setIfInBounds_toArray, List.set_cons_zero, List.set_cons_succ]
      refine wpAnyH_take (i := 4) (oi := { dst := some 68, op := Op.move (Operand.tmp 4), type := 42, pos := "law.go:104", after := #[], guard := none }) (v := ?_) rfl (by kernel_rfl) (by kernel_rfl) (by kernel_rfl) (fun _ _ _ h => h) (Or.inl ⟨by rfl, ?hy⟩) hHeld ?_
      case hy => (intro w hSw; (try dsimp only at hSw); obtain ⟨_, _, _, _, _⟩ := hSw; go_simp; all_goals (with_reducible rfl))
      try simp only [Act.put, List.setIfInBounds_toArray, List.set_cons_zero, List.set_cons_succ]
      refine wpAnyH_take (i := 5) (oi := { dst := some 69, op := Op.fieldAddr 45 (Operand.tmp 6) 1, type := 0, pos := "law.go:104", after := #[], guard := none }) (v := ?_) rfl (by kernel_rfl) (by kernel_rfl) (by kernel_rfl) (fun _ _ _ h => h) (Or.inl ⟨by rfl, ?hy⟩) hHeld ?_
      case hy => (intro w hSw; (try dsimp only at hSw); obtain ⟨_, _, _, _, _⟩ := hSw; go_simp; all_goals (with_reducible rfl))
      try simp only [Act.put, List.setIfInBounds_toArray, List.set_cons_zero, List.set_cons_succ]
      refine wpAnyH_take (i := 6) (oi := { dst := some 70, op := Op.load 23 (Operand.tmp 69), type := 23, pos := "law.go:104", after := #[{ on := 5, ground := Ground.data }], guard := none }) (v := .agg (u8s Q.od).toArray) rfl (by kernel_rfl) (by kernel_rfl) (by kernel_rfl) (fun _ _ _ h => h) (Or.inl ⟨by rfl, ?hy⟩) hHeld ?_
      case hy => (intro w hSw; exact run_load_opP hSw.1)
      try simp only [Act.put, List.setIfInBounds_toArray, List.set_cons_zero, List.set_cons_succ]
      refine wpAnyH_ready (rs := [3]) (by kernel_rfl) (by simp) ?_
      refine AllReadyH.cons (o := { dst := some 67, op := Op.call { callee := Callee.value (Operand.func 37), args := #[Operand.tmp 64, Operand.tmp 66], argTypes := #[40, 23] }, type := 27, pos := "law.go:104", after := #[{ on := 0, ground := Ground.data }, { on := 2, ground := Ground.data }], guard := none }) rfl (fun K hK => ?_) AllReadyH.nil
      go_simp
      refine (HCA.out _ (bel_drewN (Below.refl w5.heap.size w5) 1)).mono ?_
      rintro e w6 ⟨a6, c6, rfl, hi6, hb6⟩
      have HB6 := hid ((bel_drewN (Below.refl w5.heap.size w5) 1).trans hb6)
      have HI6 := hid hi6
      clear hi6 hb6
      clear hHeld
      go_wp2_with fail
      refine hK.out _ _ (HKS.out _ HB6.out) (fun hHeld => ?_)
      clear hK K
      try simp only [Act.put, List.setIfInBounds_toArray, List.set_cons_zero, List.set_cons_succ]
      refine wpAnyH_ready (rs := [7]) (by kernel_rfl) (by simp) ?_
      refine AllReadyH.cons (o := { dst := some 71, op := Op.call { callee := Callee.value (Operand.func 38), args := #[Operand.tmp 68, Operand.tmp 70], argTypes := #[42, 23] }, type := 27, pos := "law.go:104", after := #[{ on := 4, ground := Ground.data }, { on := 6, ground := Ground.data }, { on := 3, ground := Ground.chain }], guard := none }) rfl (fun K hK => ?_) AllReadyH.nil
      go_simp
      refine (HRC.out w6 HB6.out).mono ?_
      rintro e w7 ⟨a7, c7, rfl, hi7, hb7⟩
      have HB7 := hid (HB6.out.trans (hb7.mono HB6.out.size))
      have HI7 := hid hi7
      have HI67 := hid (HI6.out.belowP hb7)
      clear hi7 hb7
      clear hHeld
      go_wp2_with fail
      refine hK.out _ _ (HKS.out _ HB7.out) (fun hHeld => ?_)
      clear hK K
      try simp only [Act.put, List.setIfInBounds_toArray, List.set_cons_zero, List.set_cons_succ]
      refine wpAnyH_ready (rs := [8]) (by kernel_rfl) (by simp) ?_
      refine AllReadyH.cons (o := { dst := some 72, op := Op.call { callee := Callee.value (Operand.func 19), args := #[Operand.tmp 67, Operand.tmp 71], argTypes := #[27, 27] }, type := 4, pos := "law.go:104", after := #[{ on := 3, ground := Ground.data }, { on := 7, ground := Ground.data }, { on := 7, ground := Ground.chain }], guard := none }) rfl (fun K hK => ?_) AllReadyH.nil
      go_simp
      have hsm := same_any a6 _ c6 _ a7 _ c7 _ w7 HI67.out HI7.out (by have := HML.out; omega) (by have := HML.out; omega)
      rw [decide_eq_true rfl] at hsm
      refine hsm.mono ?_
      rintro e w8 ⟨rfl, hb8⟩
      have HB8 := hid (HB7.out.trans (hb8.mono HB7.out.size))
      clear hb8 hsm
      clear hHeld
      go_wp2_with fail
      refine hK.out _ _ (HKS.out _ HB8.out) (fun hHeld => ?_)
      clear hK K
      try simp only [Act.put, List.setIfInBounds_toArray, List.set_cons_zero, List.set_cons_succ]
      refine wpAnyH_take (i := 9) (oi := { dst := some 73, op := Op.unOp UnOp.not 4 (Operand.tmp 72), type := 4, pos := "law.go:104", after := #[{ on := 8, ground := Ground.data }], guard := none }) (v := ?_) rfl (by kernel_rfl) (by kernel_rfl) (by kernel_rfl) (fun _ _ _ h => h) (Or.inl ⟨by rfl, ?hy⟩) hHeld ?_
      case hy => (intro w hSw; (try dsimp only at hSw); obtain ⟨_, _, _, _, _⟩ := hSw; go_simp; all_goals (with_reducible rfl))
      try simp only [Act.put, List.setIfInBounds_toArray, List.set_cons_zero, List.set_cons_succ]
      refine wpAnyH_take (i := 10) (oi := { dst := some 74, op := Op.move (Operand.tmp 73), type := 4, pos := "law.go:104", after := #[{ on := 9, ground := Ground.data }, { on := 8, ground := Ground.chain }], guard := none }) (v := ?_) rfl (by kernel_rfl) (by kernel_rfl) (by kernel_rfl) (fun _ _ _ h => h) (Or.inl ⟨by rfl, ?hy⟩) hHeld ?_
      case hy => (intro w hSw; (try dsimp only at hSw); obtain ⟨_, _, _, _, _⟩ := hSw; go_simp; all_goals (with_reducible rfl))
      try simp only [Act.put, List.setIfInBounds_toArray, List.set_cons_zero, List.set_cons_succ]
      refine wpAnyH_take (i := 11) (oi := { dst := some 75, op := Op.move (Operand.tmp 3), type := 40, pos := "law.go:104", after := #[{ on := 10, ground := Ground.guard }], guard := some (10, false) }) (v := ?_) rfl (by kernel_rfl) (by kernel_rfl) (by kernel_rfl) (fun _ _ _ h => h) (Or.inl ⟨by rfl, ?hy⟩) hHeld ?_
      case hy => (intro w hSw; (try dsimp only at hSw); obtain ⟨_, _, _, _, _⟩ := hSw; go_simp; all_goals (with_reducible rfl))
      try simp only [Act.put, List.setIfInBounds_toArray, List.set_cons_zero, List.set_cons_succ]
      refine wpAnyH_take (i := 12) (oi := { dst := some 76, op := Op.fieldAddr 45 (Operand.tmp 6) 1, type := 0, pos := "law.go:104", after := #[{ on := 10, ground := Ground.guard }], guard := some (10, false) }) (v := ?_) rfl (by kernel_rfl) (by kernel_rfl) (by kernel_rfl) (fun _ _ _ h => h) (Or.inl ⟨by rfl, ?hy⟩) hHeld ?_
      case hy => (intro w hSw; (try dsimp only at hSw); obtain ⟨_, _, _, _, _⟩ := hSw; go_simp; all_goals (with_reducible rfl))
      try simp only [Act.put, List.setIfInBounds_toArray, List.set_cons_zero, List.set_cons_succ]
      refine wpAnyH_take (i := 13) (oi := { dst := some 77, op := Op.load 23 (Operand.tmp 76), type := 23, pos := "law.go:104", after := #[{ on := 12, ground := Ground.data }, { on := 10, ground := Ground.guard }], guard := some (10, false) }) (v := .agg (u8s Q.od).toArray) rfl (by kernel_rfl) (by kernel_rfl) (by kernel_rfl) (fun _ _ _ h => h) (Or.inl ⟨by rfl, ?hy⟩) hHeld ?_
      case hy => (intro w hSw; exact run_load_opP hSw.1)
      try simp only [Act.put, List.setIfInBounds_toArray, List.set_cons_zero, List.set_cons_succ]
      refine wpAnyH_take (i := 14) (oi := { dst := some 78, op := Op.fieldAddr 45 (Operand.tmp 6) 3, type := 0, pos := "law.go:104", after := #[{ on := 10, ground := Ground.guard }], guard := some (10, false) }) (v := ?_) rfl (by kernel_rfl) (by kernel_rfl) (by kernel_rfl) (fun _ _ _ h => h) (Or.inl ⟨by rfl, ?hy⟩) hHeld ?_
      case hy => (intro w hSw; (try dsimp only at hSw); obtain ⟨_, _, _, _, _⟩ := hSw; go_simp; all_goals (with_reducible rfl))
      try simp only [Act.put, List.setIfInBounds_toArray, List.set_cons_zero, List.set_cons_succ]
      refine wpAnyH_take (i := 15) (oi := { dst := some 79, op := Op.load 3 (Operand.tmp 78), type := 3, pos := "law.go:104", after := #[{ on := 14, ground := Ground.data }, { on := 10, ground := Ground.guard }], guard := some (10, false) }) (v := ?_) rfl (by kernel_rfl) (by kernel_rfl) (by kernel_rfl) (fun _ _ _ h => h) (Or.inl ⟨by rfl, ?hy⟩) hHeld ?_
      case hy => (intro w hSw; (try dsimp only at hSw); obtain ⟨_, _, _, _, _⟩ := hSw; go_simp; all_goals (with_reducible rfl))
      try simp only [Act.put, List.setIfInBounds_toArray, List.set_cons_zero, List.set_cons_succ]
      refine wpAnyH_take (i := 16) (oi := { dst := some 80, op := Op.fieldAddr 45 (Operand.tmp 6) 5, type := 0, pos := "law.go:104", after := #[{ on := 10, ground := Ground.guard }], guard := some (10, false) }) (v := ?_) rfl (by kernel_rfl) (by kernel_rfl) (by kernel_rfl) (fun _ _ _ h => h) (Or.inl ⟨by rfl, ?hy⟩) hHeld ?_
      case hy => (intro w hSw; (try dsimp only at hSw); obtain ⟨_, _, _, _, _⟩ := hSw; go_simp; all_goals (with_reducible rfl))
      try simp only [Act.put, List.setIfInBounds_toArray, List.set_cons_zero, List.set_cons_succ]
      refine wpAnyH_take (i := 17) (oi := { dst := some 81, op := Op.load 43 (Operand.tmp 80), type := 43, pos := "law.go:104", after := #[{ on := 16, ground := Ground.data }, { on := 10, ground := Ground.guard }], guard := some (10, false) }) (v := ?_) rfl (by kernel_rfl) (by kernel_rfl) (by kernel_rfl) (fun _ _ _ h => h) (Or.inl ⟨by rfl, ?hy⟩) hHeld ?_
      case hy => (intro w hSw; (try dsimp only at hSw); obtain ⟨_, _, _, _, _⟩ := hSw; go_simp; all_goals (with_reducible rfl))
      try simp only [Act.put, List.setIfInBounds_toArray, List.set_cons_zero, List.set_cons_succ]
      refine wpAnyH_take (i := 18) (oi := { dst := some 82, op := Op.fieldAddr 45 (Operand.tmp 6) 6, type := 0, pos := "law.go:104", after := #[{ on := 10, ground := Ground.guard }], guard := some (10, false) }) (v := ?_) rfl (by kernel_rfl) (by kernel_rfl) (by kernel_rfl) (fun _ _ _ h => h) (Or.inl ⟨by rfl, ?hy⟩) hHeld ?_
      case hy => (intro w hSw; (try dsimp only at hSw); obtain ⟨_, _, _, _, _⟩ := hSw; go_simp; all_goals (with_reducible rfl))
      try simp only [Act.put, List.setIfInBounds_toArray, List.set_cons_zero, List.set_cons_succ]
      refine wpAnyH_take (i := 19) (oi := { dst := some 83, op := Op.load 27 (Operand.tmp 82), type := 27, pos := "law.go:104", after := #[{ on := 18, ground := Ground.data }, { on := 10, ground := Ground.guard }], guard := some (10, false) }) (v := ?_) rfl (by kernel_rfl) (by kernel_rfl) (by kernel_rfl) (fun _ _ _ h => h) (Or.inl ⟨by rfl, ?hy⟩) hHeld ?_
      case hy => (intro w hSw; (try dsimp only at hSw); obtain ⟨_, _, _, _, _⟩ := hSw; go_simp; all_goals (with_reducible rfl))
      try simp only [Act.put, List.setIfInBounds_toArray, List.set_cons_zero, List.set_cons_succ]
      refine wpAnyH_take (i := 21) (oi := { dst := some 85, op := Op.fieldAddr 45 (Operand.tmp 6) 7, type := 0, pos := "law.go:104", after := #[{ on := 10, ground := Ground.guard }], guard := some (10, false) }) (v := ?_) rfl (by kernel_rfl) (by kernel_rfl) (by kernel_rfl) (fun _ _ _ h => h) (Or.inl ⟨by rfl, ?hy⟩) hHeld ?_
      case hy => (intro w hSw; (try dsimp only at hSw); obtain ⟨_, _, _, _, _⟩ := hSw; go_simp; all_goals (with_reducible rfl))
      try simp only [Act.put, List.setIfInBounds_toArray, List.set_cons_zero, List.set_cons_succ]
      refine wpAnyH_take (i := 22) (oi := { dst := some 86, op := Op.load 27 (Operand.tmp 85), type := 27, pos := "law.go:104", after := #[{ on := 21, ground := Ground.data }, { on := 10, ground := Ground.guard }], guard := some (10, false) }) (v := ?_) rfl (by kernel_rfl) (by kernel_rfl) (by kernel_rfl) (fun _ _ _ h => h) (Or.inl ⟨by rfl, ?hy⟩) hHeld ?_
      case hy => (intro w hSw; (try dsimp only at hSw); obtain ⟨_, _, _, _, _⟩ := hSw; go_simp; all_goals (with_reducible rfl))
      try simp only [Act.put, List.setIfInBounds_toArray, List.set_cons_zero, List.set_cons_succ]
      refine wpAnyH_take (i := 25) (oi := { dst := some 89, op := Op.move (Operand.tmp 4), type := 42, pos := "law.go:104", after := #[{ on := 10, ground := Ground.guard }], guard := some (10, false) }) (v := ?_) rfl (by kernel_rfl) (by kernel_rfl) (by kernel_rfl) (fun _ _ _ h => h) (Or.inl ⟨by rfl, ?hy⟩) hHeld ?_
      case hy => (intro w hSw; (try dsimp only at hSw); obtain ⟨_, _, _, _, _⟩ := hSw; go_simp; all_goals (with_reducible rfl))
      try simp only [Act.put, List.setIfInBounds_toArray, List.set_cons_zero, List.set_cons_succ]
      refine wpAnyH_take (i := 26) (oi := { dst := some 90, op := Op.fieldAddr 45 (Operand.tmp 6) 1, type := 0, pos := "law.go:104", after := #[{ on := 10, ground := Ground.guard }], guard := some (10, false) }) (v := ?_) rfl (by kernel_rfl) (by kernel_rfl) (by kernel_rfl) (fun _ _ _ h => h) (Or.inl ⟨by rfl, ?hy⟩) hHeld ?_
      case hy => (intro w hSw; (try dsimp only at hSw); obtain ⟨_, _, _, _, _⟩ := hSw; go_simp; all_goals (with_reducible rfl))
      try simp only [Act.put, List.setIfInBounds_toArray, List.set_cons_zero, List.set_cons_succ]
      refine wpAnyH_take (i := 27) (oi := { dst := some 91, op := Op.load 23 (Operand.tmp 90), type := 23, pos := "law.go:104", after := #[{ on := 26, ground := Ground.data }, { on := 10, ground := Ground.guard }], guard := some (10, false) }) (v := .agg (u8s Q.od).toArray) rfl (by kernel_rfl) (by kernel_rfl) (by kernel_rfl) (fun _ _ _ h => h) (Or.inl ⟨by rfl, ?hy⟩) hHeld ?_
      case hy => (intro w hSw; exact run_load_opP hSw.1)
      try simp only [Act.put, List.setIfInBounds_toArray, List.set_cons_zero, List.set_cons_succ]
      refine wpAnyH_take (i := 28) (oi := { dst := some 92, op := Op.fieldAddr 45 (Operand.tmp 6) 3, type := 0, pos := "law.go:104", after := #[{ on := 10, ground := Ground.guard }], guard := some (10, false) }) (v := ?_) rfl (by kernel_rfl) (by kernel_rfl) (by kernel_rfl) (fun _ _ _ h => h) (Or.inl ⟨by rfl, ?hy⟩) hHeld ?_
      case hy => (intro w hSw; (try dsimp only at hSw); obtain ⟨_, _, _, _, _⟩ := hSw; go_simp; all_goals (with_reducible rfl))
      try simp only [Act.put, List.setIfInBounds_toArray, List.set_cons_zero, List.set_cons_succ]
      refine wpAnyH_take (i := 29) (oi := { dst := some 93, op := Op.load 3 (Operand.tmp 92), type := 3, pos := "law.go:104", after := #[{ on := 28, ground := Ground.data }, { on := 10, ground := Ground.guard }], guard := some (10, false) }) (v := ?_) rfl (by kernel_rfl) (by kernel_rfl) (by kernel_rfl) (fun _ _ _ h => h) (Or.inl ⟨by rfl, ?hy⟩) hHeld ?_
      case hy => (intro w hSw; (try dsimp only at hSw); obtain ⟨_, _, _, _, _⟩ := hSw; go_simp; all_goals (with_reducible rfl))
      try simp only [Act.put, List.setIfInBounds_toArray, List.set_cons_zero, List.set_cons_succ]
      refine wpAnyH_take (i := 30) (oi := { dst := some 94, op := Op.fieldAddr 45 (Operand.tmp 6) 5, type := 0, pos := "law.go:104", after := #[{ on := 10, ground := Ground.guard }], guard := some (10, false) }) (v := ?_) rfl (by kernel_rfl) (by kernel_rfl) (by kernel_rfl) (fun _ _ _ h => h) (Or.inl ⟨by rfl, ?hy⟩) hHeld ?_
      case hy => (intro w hSw; (try dsimp only at hSw); obtain ⟨_, _, _, _, _⟩ := hSw; go_simp; all_goals (with_reducible rfl))
      try simp only [Act.put, List.setIfInBounds_toArray, List.set_cons_zero, List.set_cons_succ]
      refine wpAnyH_take (i := 31) (oi := { dst := some 95, op := Op.load 43 (Operand.tmp 94), type := 43, pos := "law.go:104", after := #[{ on := 30, ground := Ground.data }, { on := 10, ground := Ground.guard }], guard := some (10, false) }) (v := ?_) rfl (by kernel_rfl) (by kernel_rfl) (by kernel_rfl) (fun _ _ _ h => h) (Or.inl ⟨by rfl, ?hy⟩) hHeld ?_
      case hy => (intro w hSw; (try dsimp only at hSw); obtain ⟨_, _, _, _, _⟩ := hSw; go_simp; all_goals (with_reducible rfl))
      try simp only [Act.put, List.setIfInBounds_toArray, List.set_cons_zero, List.set_cons_succ]
      refine wpAnyH_take (i := 32) (oi := { dst := some 96, op := Op.fieldAddr 45 (Operand.tmp 6) 6, type := 0, pos := "law.go:104", after := #[{ on := 10, ground := Ground.guard }], guard := some (10, false) }) (v := ?_) rfl (by kernel_rfl) (by kernel_rfl) (by kernel_rfl) (fun _ _ _ h => h) (Or.inl ⟨by rfl, ?hy⟩) hHeld ?_
      case hy => (intro w hSw; (try dsimp only at hSw); obtain ⟨_, _, _, _, _⟩ := hSw; go_simp; all_goals (with_reducible rfl))
      try simp only [Act.put, List.setIfInBounds_toArray, List.set_cons_zero, List.set_cons_succ]
      refine wpAnyH_take (i := 33) (oi := { dst := some 97, op := Op.load 27 (Operand.tmp 96), type := 27, pos := "law.go:104", after := #[{ on := 32, ground := Ground.data }, { on := 10, ground := Ground.guard }], guard := some (10, false) }) (v := ?_) rfl (by kernel_rfl) (by kernel_rfl) (by kernel_rfl) (fun _ _ _ h => h) (Or.inl ⟨by rfl, ?hy⟩) hHeld ?_
      case hy => (intro w hSw; (try dsimp only at hSw); obtain ⟨_, _, _, _, _⟩ := hSw; go_simp; all_goals (with_reducible rfl))
      try simp only [Act.put, List.setIfInBounds_toArray, List.set_cons_zero, List.set_cons_succ]
      refine wpAnyH_take (i := 34) (oi := { dst := some 98, op := Op.fieldAddr 45 (Operand.tmp 6) 7, type := 0, pos := "law.go:104", after := #[{ on := 10, ground := Ground.guard }], guard := some (10, false) }) (v := ?_) rfl (by kernel_rfl) (by kernel_rfl) (by kernel_rfl) (fun _ _ _ h => h) (Or.inl ⟨by rfl, ?hy⟩) hHeld ?_
      case hy => (intro w hSw; (try dsimp only at hSw); obtain ⟨_, _, _, _, _⟩ := hSw; go_simp; all_goals (with_reducible rfl))
      try simp only [Act.put, List.setIfInBounds_toArray, List.set_cons_zero, List.set_cons_succ]
      refine wpAnyH_take (i := 35) (oi := { dst := some 99, op := Op.load 27 (Operand.tmp 98), type := 27, pos := "law.go:104", after := #[{ on := 34, ground := Ground.data }, { on := 10, ground := Ground.guard }], guard := some (10, false) }) (v := ?_) rfl (by kernel_rfl) (by kernel_rfl) (by kernel_rfl) (fun _ _ _ h => h) (Or.inl ⟨by rfl, ?hy⟩) hHeld ?_
      case hy => (intro w hSw; (try dsimp only at hSw); obtain ⟨_, _, _, _, _⟩ := hSw; go_simp; all_goals (with_reducible rfl))
      try simp only [Act.put, List.setIfInBounds_toArray, List.set_cons_zero, List.set_cons_succ]
      refine wpAnyH_ready (rs := [20]) (by kernel_rfl) (by simp) ?_
      refine AllReadyH.cons (o := { dst := some 84, op := Op.call { callee := Callee.value (Operand.func 23), args := #[Operand.tmp 83], argTypes := #[27] }, type := 27, pos := "law.go:104", after := #[{ on := 19, ground := Ground.data }, { on := 10, ground := Ground.chain }, { on := 10, ground := Ground.guard }], guard := some (10, false) }) rfl (fun K hK => ?_) AllReadyH.nil
      go_simp
      refine (ints_any Q.la Q.ln Q.lc Q.ll w8 (HIN5.out.below HB8.out).hl.1 HIN5.out.hl.2.2 HIN5.out.hl.2.1 (by omega)).mono ?_
      rintro e w9 ⟨a9, c9, rfl, hi9, -, -, -, hb9⟩
      have HB9 := hid (HB8.out.trans (hb9.mono HB8.out.size))
      have HI9 := hid hi9
      clear hi9 hb9
      clear hHeld
      go_wp2_with fail
      refine hK.out _ _ (HKS.out _ HB9.out) (fun hHeld => ?_)
      clear hK K
      try simp only [Act.put, List.setIfInBounds_toArray, List.set_cons_zero, List.set_cons_succ]
      refine wpAnyH_ready (rs := [23]) (by kernel_rfl) (by simp) ?_
      refine AllReadyH.cons (o := { dst := some 87, op := Op.call { callee := Callee.value (Operand.func 23), args := #[Operand.tmp 86], argTypes := #[27] }, type := 27, pos := "law.go:104", after := #[{ on := 22, ground := Ground.data }, { on := 20, ground := Ground.chain }, { on := 10, ground := Ground.guard }], guard := some (10, false) }) rfl (fun K hK => ?_) AllReadyH.nil
      go_simp
      refine (ints_any Q.oa Q.on Q.oc Q.ol w9 (HIN5.out.below HB9.out).hq.1 HIN5.out.hq.2.2 HIN5.out.hq.2.1 (by omega)).mono ?_
      rintro e w10 ⟨a10, c10, rfl, hi10, -, -, -, hb10⟩
      have HB10 := hid (HB9.out.trans (hb10.mono HB9.out.size))
      have HI10 := hid hi10
      have HI910 := hid (HI9.out.belowP hb10)
      clear hi10 hb10
      clear hHeld
      go_wp2_with fail
      refine hK.out _ _ (HKS.out _ HB10.out) (fun hHeld => ?_)
      clear hK K
      try simp only [Act.put, List.setIfInBounds_toArray, List.set_cons_zero, List.set_cons_succ]
      refine wpAnyH_ready (rs := [24]) (by kernel_rfl) (by simp) ?_
      refine AllReadyH.cons (o := { dst := some 88, op := Op.call { callee := Callee.value (Operand.func 39), args := #[Operand.tmp 75, Operand.tmp 77, Operand.tmp 79, Operand.tmp 81, Operand.tmp 84, Operand.tmp 87], argTypes := #[40, 23, 3, 43, 27, 27] }, type := 4, pos := "law.go:104", after := #[{ on := 11, ground := Ground.data }, { on := 13, ground := Ground.data }, { on := 15, ground := Ground.data }, { on := 17, ground := Ground.data }, { on := 20, ground := Ground.data }, { on := 23, ground := Ground.data }, { on := 23, ground := Ground.chain }, { on := 10, ground := Ground.guard }], guard := some (10, false) }) rfl (fun K hK => ?_) AllReadyH.nil
      go_simp
      refine (HBK.out w10 HB10.out a9 c9 a10 c10 HI910.out HI10.out).mono ?_
      rintro e w11 ⟨rfl, hb11⟩
      have HB11 := hid (HB10.out.trans (hb11.mono HB10.out.size))
      clear hb11
      clear hHeld
      go_wp2_with fail
      refine hK.out _ _ (HKS.out _ HB11.out) (fun hHeld => ?_)
      clear hK K
      try simp only [Act.put, List.setIfInBounds_toArray, List.set_cons_zero, List.set_cons_succ]
      refine wpAnyH_ready (rs := [36]) (by kernel_rfl) (by simp) ?_
      refine AllReadyH.cons (o := { dst := some 100, op := Op.call { callee := Callee.value (Operand.func 40), args := #[Operand.tmp 89, Operand.tmp 91, Operand.tmp 93, Operand.tmp 95, Operand.tmp 97, Operand.tmp 99], argTypes := #[42, 23, 3, 43, 27, 27] }, type := 4, pos := "law.go:104", after := #[{ on := 25, ground := Ground.data }, { on := 27, ground := Ground.data }, { on := 29, ground := Ground.data }, { on := 31, ground := Ground.data }, { on := 33, ground := Ground.data }, { on := 35, ground := Ground.data }, { on := 24, ground := Ground.chain }, { on := 10, ground := Ground.guard }], guard := some (10, false) }) rfl (fun K hK => ?_) AllReadyH.nil
      go_simp
      refine (HRB.out w11 HB11.out).mono ?_
      rintro e w12 ⟨rfl, hb12⟩
      have HB12 := hid (HB11.out.trans (hb12.mono HB11.out.size))
      clear hb12
      clear hHeld
      go_wp2_with fail
      refine hK.out _ _ (HKS.out _ HB12.out) (fun hHeld => ?_)
      clear hK K
      try simp only [Act.put, List.setIfInBounds_toArray, List.set_cons_zero, List.set_cons_succ]
      refine wpAnyH_take (i := 37) (oi := { dst := some 101, op := Op.binOp BinOp.neq 4 (Operand.tmp 88) (Operand.tmp 100) 4, type := 4, pos := "law.go:104", after := #[{ on := 24, ground := Ground.data }, { on := 36, ground := Ground.data }, { on := 10, ground := Ground.guard }], guard := some (10, false) }) (v := ?_) rfl (by kernel_rfl) (by kernel_rfl) (by kernel_rfl) (fun _ _ _ h => h) (Or.inl ⟨by rfl, ?hy⟩) hHeld ?_
      case hy => (intro w hSw; (try dsimp only at hSw); obtain ⟨_, _, _, _, _⟩ := hSw; go_simp; all_goals (with_reducible rfl))
      try simp only [Act.put, List.setIfInBounds_toArray, List.set_cons_zero, List.set_cons_succ]
      refine wpAnyH_take (i := 38) (oi := { dst := some 102, op := Op.pick (Operand.tmp 74) (Operand.const (Value.bool true)) (Operand.tmp 101), type := 4, pos := "law.go:104", after := #[{ on := 10, ground := Ground.data }, { on := 37, ground := Ground.data }], guard := none }) (v := ?_) rfl (by kernel_rfl) (by kernel_rfl) (by kernel_rfl) (fun _ _ _ h => h) (Or.inl ⟨by rfl, ?hy⟩) hHeld ?_
      case hy => (intro w hSw; (try dsimp only at hSw); obtain ⟨_, _, _, _, _⟩ := hSw; go_simp; all_goals (with_reducible rfl))
      try simp only [Act.put, List.setIfInBounds_toArray, List.set_cons_zero, List.set_cons_succ]
      refine wpAnyH_done (by kernel_rfl) ?_ _
      have HI12 := hid (show ClI w12 B cb mb (i + 1) (.slice ra rn rc) R5 from by rw [HRNE.out]; exact HI5.out.below HB12.out)
      have HB12W := hid (show Below B w w12 from by rw [HBE.out]; exact HB5.out.trans (HB12.out.mono HB5.out.size))
      go_wp2_with fail
      exact ⟨⟨i + 1, R5, by omega, by go_num, HI12, HB12W⟩, by simp [intOf]; omega⟩
    · as_aux_lemma =>
      have n1' : (Q.kd == 1) = false := by simpa using e1
      have n2' : (Q.kd == 2) = false := by simpa using e2
      obtain ⟨v5, hv5⟩ : ∃ y, y = u4 := ⟨_, rfl⟩
      obtain ⟨w5, hw5⟩ : ∃ y, y = w3 := ⟨_, rfl⟩
      obtain ⟨R5, hR5⟩ : ∃ y, y = R := ⟨_, rfl⟩
      have HI5 := hid (show ClI w5 B cb mb (i + 1) v5 R5 from by rw [hw5, hv5, hR5]; exact ⟨n, D, J, HCM.out.mono (Nat.le_succ i), HREL.out, HRW.out, Nat.le_succ_of_le HRL.out⟩)
      have HB5 := hid (show Below w.heap.size w w5 from by rw [hw5]; exact HB3.out)
      have HW5 := hid (show w5.heap[kb]? = some (.cells Q.cells.toArray 45 (0, 0)) from by rw [hw5]; exact HW3.out)
      have HIN5 := hid (HINW.out.below HB5.out)
      rw [← hw5, ← hv5]
      rw [← hw5] at c0
      clear hw5 hv5 hR5 e1 e2 c33 c34 c35 c36
      obtain ⟨n5, D5, J5, hCM5, hRel5, hRw5, hRl5⟩ := HI5.out
      obtain ⟨ra, rc, hra⟩ := hRw5.form
      subst hra
      have HCM5 := hid hCM5
      have HREL5 := hid hRel5
      have HRW5 := hid hRw5
      have HRL5 := hid hRl5
      have HKS := hid (show ∀ wx : World, Below w5.heap.size w5 wx → (loadVar 23 ⟨kb, 1, none⟩).run Tryz.prog wx = .ok (.agg (u8s Q.od).toArray) wx ∧ wx.cell? ⟨kb, 34, none⟩ = some (.int .i64 Q.sf) ∧ wx.cell? ⟨kb, 36, none⟩ = some (.int .u64 Q.nw) ∧ wx.cell? ⟨kb, 37, none⟩ = some (.slice Q.la Q.ln Q.lc) ∧ wx.cell? ⟨kb, 38, none⟩ = some (.slice Q.oa Q.on Q.oc) from fun wx h => by
        obtain ⟨-, -, f34, -, f36, f37, f38, hr⟩ := HKC.out wx ((h.block _ (lt_of_heap HW5.out)).trans HW5.out)
        exact ⟨run_loadVar_mid (P := Tryz.prog) wx kb 1 23 (u8s Q.od) _ hr Tryz.underlying23 rfl HIFD.out, f34, f36, f37, f38⟩)
      have HVV := hid (fun (wx : World) (h : Below w5.heap.size w5 wx) => HV.out.below (HB5.out.trans (h.mono HB5.out.size)))
      have HNN := hid (fun (wx : World) (h : Below w5.heap.size w5 wx) => HRN.out.below (HB5.out.trans (h.mono HB5.out.size)))
      have HML := hid (memb_le (setL (clsI Q.od R5)) 16)
      obtain ⟨LL, hLL⟩ : ∃ y, y = (memb (setL (clsI Q.od R5)) 16) := ⟨_, rfl⟩
      have HCA := hid (fun (wx : World) (h : Below w5.heap.size w5 wx) => Claimants_all B (i + 1) cb mb n5 D5 J5 (by omega) R5 HREL5.out Q.od HIN5.out.ho HIN5.out.hb wx (HCM5.out.below h))
      have HRC := hid (fun (wx : World) (h : Below w5.heap.size w5 wx) => rClaimants_any R5 (by have := HRL5.out; omega) ra rc Q.od HIN5.out.ho wx (HRW5.out.below h))
      rw [← hLL] at HCA HRC HML
      obtain ⟨BB, hBB⟩ : ∃ y, y = R5.any (hitC Q.od Q.sf Q.nw Q.ll Q.ol) := ⟨_, rfl⟩
      have HBK := hid (fun (wx : World) (h : Below w5.heap.size w5 wx) (al : Option Addr) (cl : Nat) (ah : Option Addr) (ch : Nat) (h1 : Is wx (.slice al Q.ln cl) Q.ll) (h2 : Is wx (.slice ah Q.on ch) Q.ol) => Blocked_all B (i + 1) cb mb n5 D5 J5 R5 HREL5.out HRW5.out.2 Q.od HIN5.out.ho HIN5.out.hb Q.sf Q.nw n0 n1 al Q.ln cl Q.ll ah Q.on ch Q.ol wx (HVV.out wx h) (HCM5.out.below h) h1 (by omega) h2 (by omega))
      have HRB := hid (fun (wx : World) (h : Below w5.heap.size w5 wx) => rBlocked_any R5 (by have := HRL5.out; omega) ra rc Q.od HIN5.out.ho HIN5.out.hb Q.sf Q.nw n0 n1 Q.la Q.ln Q.lc Q.ll Q.oa Q.on Q.oc Q.ol wx (HNN.out wx h) (HRW5.out.below h) (HIN5.out.below h).hl.1 (by omega) (HIN5.out.below h).hq.1 (by omega))
      rw [← hBB] at HBK HRB
      clear hLL hBB hCM5 hRel5 hRw5 hRl5
      go_upto_region 18 with fail
      try clear c0
      obtain ⟨rn, hrn⟩ : ∃ y, y = R5.length := ⟨_, rfl⟩
      have HRNE := hid hrn
      rw [← hrn] at HRC HRB ⊢
      clear hrn
      refine wp_region_held_drew (S := (fun wx : World => (loadVar 23 ⟨kb, 1, none⟩).run Tryz.prog wx = .ok (.agg (u8s Q.od).toArray) wx ∧ wx.cell? ⟨kb, 34, none⟩ = some (.int .i64 Q.sf) ∧ wx.cell? ⟨kb, 36, none⟩ = some (.int .u64 Q.nw) ∧ wx.cell? ⟨kb, 37, none⟩ = some (.slice Q.la Q.ln Q.lc) ∧ wx.cell? ⟨kb, 38, none⟩ = some (.slice Q.oa Q.on Q.oc))) (by kernel_rfl) (HKS.out _ (bel_drewN (Below.refl w5.heap.size w5) 1)) (fun hHeld => ?_)
      refine wpAnyH_take (i := 0) (oi := { dst := some 64, op := Op.move (Operand.tmp 3), type := 40, pos := "law.go:104", after := #[], guard := none }) (v := ?_) rfl (by kernel_rfl) (by kernel_rfl) (by kernel_rfl) (fun _ _ _ h => h) (Or.inl ⟨by rfl, ?hy⟩) hHeld ?_
      case hy => (intro w hSw; (try dsimp only at hSw); obtain ⟨_, _, _, _, _⟩ := hSw; go_simp; all_goals (with_reducible rfl))
      try simp only [Act.put, List.setIfInBounds_toArray, List.set_cons_zero, List.set_cons_succ]
      refine wpAnyH_take (i := 1) (oi := { dst := some 65, op := Op.fieldAddr 45 (Operand.tmp 6) 1, type := 0, pos := "law.go:104", after := #[], guard := none }) (v := ?_) rfl (by kernel_rfl) (by kernel_rfl) (by kernel_rfl) (fun _ _ _ h => h) (Or.inl ⟨by rfl, ?hy⟩) hHeld ?_
      case hy => (intro w hSw; (try dsimp only at hSw); obtain ⟨_, _, _, _, _⟩ := hSw; go_simp; all_goals (with_reducible rfl))
      try simp only [Act.put, List.setIfInBounds_toArray, List.set_cons_zero, List.set_cons_succ]
      refine wpAnyH_take (i := 2) (oi := { dst := some 66, op := Op.load 23 (Operand.tmp 65), type := 23, pos := "law.go:104", after := #[{ on := 1, ground := Ground.data }], guard := none }) (v := .agg (u8s Q.od).toArray) rfl (by kernel_rfl) (by kernel_rfl) (by kernel_rfl) (fun _ _ _ h => h) (Or.inl ⟨by rfl, ?hy⟩) hHeld ?_
      case hy => (intro w hSw; exact run_load_opP hSw.1)
      try simp only [Act.put, List.setIfInBounds_toArray, List.set_cons_zero, List.set_cons_succ]
      refine wpAnyH_take (i := 4) (oi := { dst := some 68, op := Op.move (Operand.tmp 4), type := 42, pos := "law.go:104", after := #[], guard := none }) (v := ?_) rfl (by kernel_rfl) (by kernel_rfl) (by kernel_rfl) (fun _ _ _ h => h) (Or.inl ⟨by rfl, ?hy⟩) hHeld ?_
      case hy => (intro w hSw; (try dsimp only at hSw); obtain ⟨_, _, _, _, _⟩ := hSw; go_simp; all_goals (with_reducible rfl))
      try simp only [Act.put, List.setIfInBounds_toArray, List.set_cons_zero, List.set_cons_succ]
      refine wpAnyH_take (i := 5) (oi := { dst := some 69, op := Op.fieldAddr 45 (Operand.tmp 6) 1, type := 0, pos := "law.go:104", after := #[], guard := none }) (v := ?_) rfl (by kernel_rfl) (by kernel_rfl) (by kernel_rfl) (fun _ _ _ h => h) (Or.inl ⟨by rfl, ?hy⟩) hHeld ?_
      case hy => (intro w hSw; (try dsimp only at hSw); obtain ⟨_, _, _, _, _⟩ := hSw; go_simp; all_goals (with_reducible rfl))
      try simp only [Act.put, List.setIfInBounds_toArray, List.set_cons_zero, List.set_cons_succ]
      refine wpAnyH_take (i := 6) (oi := { dst := some 70, op := Op.load 23 (Operand.tmp 69), type := 23, pos := "law.go:104", after := #[{ on := 5, ground := Ground.data }], guard := none }) (v := .agg (u8s Q.od).toArray) rfl (by kernel_rfl) (by kernel_rfl) (by kernel_rfl) (fun _ _ _ h => h) (Or.inl ⟨by rfl, ?hy⟩) hHeld ?_
      case hy => (intro w hSw; exact run_load_opP hSw.1)
      try simp only [Act.put, List.setIfInBounds_toArray, List.set_cons_zero, List.set_cons_succ]
      refine wpAnyH_ready (rs := [3]) (by kernel_rfl) (by simp) ?_
      refine AllReadyH.cons (o := { dst := some 67, op := Op.call { callee := Callee.value (Operand.func 37), args := #[Operand.tmp 64, Operand.tmp 66], argTypes := #[40, 23] }, type := 27, pos := "law.go:104", after := #[{ on := 0, ground := Ground.data }, { on := 2, ground := Ground.data }], guard := none }) rfl (fun K hK => ?_) AllReadyH.nil
      go_simp
      refine (HCA.out _ (bel_drewN (Below.refl w5.heap.size w5) 1)).mono ?_
      rintro e w6 ⟨a6, c6, rfl, hi6, hb6⟩
      have HB6 := hid ((bel_drewN (Below.refl w5.heap.size w5) 1).trans hb6)
      have HI6 := hid hi6
      clear hi6 hb6
      clear hHeld
      go_wp2_with fail
      refine hK.out _ _ (HKS.out _ HB6.out) (fun hHeld => ?_)
      clear hK K
      try simp only [Act.put, List.setIfInBounds_toArray, List.set_cons_zero, List.set_cons_succ]
      refine wpAnyH_ready (rs := [7]) (by kernel_rfl) (by simp) ?_
      refine AllReadyH.cons (o := { dst := some 71, op := Op.call { callee := Callee.value (Operand.func 38), args := #[Operand.tmp 68, Operand.tmp 70], argTypes := #[42, 23] }, type := 27, pos := "law.go:104", after := #[{ on := 4, ground := Ground.data }, { on := 6, ground := Ground.data }, { on := 3, ground := Ground.chain }], guard := none }) rfl (fun K hK => ?_) AllReadyH.nil
      go_simp
      refine (HRC.out w6 HB6.out).mono ?_
      rintro e w7 ⟨a7, c7, rfl, hi7, hb7⟩
      have HB7 := hid (HB6.out.trans (hb7.mono HB6.out.size))
      have HI7 := hid hi7
      have HI67 := hid (HI6.out.belowP hb7)
      clear hi7 hb7
      clear hHeld
      go_wp2_with fail
      refine hK.out _ _ (HKS.out _ HB7.out) (fun hHeld => ?_)
      clear hK K
      try simp only [Act.put, List.setIfInBounds_toArray, List.set_cons_zero, List.set_cons_succ]
      refine wpAnyH_ready (rs := [8]) (by kernel_rfl) (by simp) ?_
      refine AllReadyH.cons (o := { dst := some 72, op := Op.call { callee := Callee.value (Operand.func 19), args := #[Operand.tmp 67, Operand.tmp 71], argTypes := #[27, 27] }, type := 4, pos := "law.go:104", after := #[{ on := 3, ground := Ground.data }, { on := 7, ground := Ground.data }, { on := 7, ground := Ground.chain }], guard := none }) rfl (fun K hK => ?_) AllReadyH.nil
      go_simp
      have hsm := same_any a6 _ c6 _ a7 _ c7 _ w7 HI67.out HI7.out (by have := HML.out; omega) (by have := HML.out; omega)
      rw [decide_eq_true rfl] at hsm
      refine hsm.mono ?_
      rintro e w8 ⟨rfl, hb8⟩
      have HB8 := hid (HB7.out.trans (hb8.mono HB7.out.size))
      clear hb8 hsm
      clear hHeld
      go_wp2_with fail
      refine hK.out _ _ (HKS.out _ HB8.out) (fun hHeld => ?_)
      clear hK K
      try simp only [Act.put, List.setIfInBounds_toArray, List.set_cons_zero, List.set_cons_succ]
      refine wpAnyH_take (i := 9) (oi := { dst := some 73, op := Op.unOp UnOp.not 4 (Operand.tmp 72), type := 4, pos := "law.go:104", after := #[{ on := 8, ground := Ground.data }], guard := none }) (v := ?_) rfl (by kernel_rfl) (by kernel_rfl) (by kernel_rfl) (fun _ _ _ h => h) (Or.inl ⟨by rfl, ?hy⟩) hHeld ?_
      case hy => (intro w hSw; (try dsimp only at hSw); obtain ⟨_, _, _, _, _⟩ := hSw; go_simp; all_goals (with_reducible rfl))
      try simp only [Act.put, List.setIfInBounds_toArray, List.set_cons_zero, List.set_cons_succ]
      refine wpAnyH_take (i := 10) (oi := { dst := some 74, op := Op.move (Operand.tmp 73), type := 4, pos := "law.go:104", after := #[{ on := 9, ground := Ground.data }, { on := 8, ground := Ground.chain }], guard := none }) (v := ?_) rfl (by kernel_rfl) (by kernel_rfl) (by kernel_rfl) (fun _ _ _ h => h) (Or.inl ⟨by rfl, ?hy⟩) hHeld ?_
      case hy => (intro w hSw; (try dsimp only at hSw); obtain ⟨_, _, _, _, _⟩ := hSw; go_simp; all_goals (with_reducible rfl))
      try simp only [Act.put, List.setIfInBounds_toArray, List.set_cons_zero, List.set_cons_succ]
      refine wpAnyH_take (i := 11) (oi := { dst := some 75, op := Op.move (Operand.tmp 3), type := 40, pos := "law.go:104", after := #[{ on := 10, ground := Ground.guard }], guard := some (10, false) }) (v := ?_) rfl (by kernel_rfl) (by kernel_rfl) (by kernel_rfl) (fun _ _ _ h => h) (Or.inl ⟨by rfl, ?hy⟩) hHeld ?_
      case hy => (intro w hSw; (try dsimp only at hSw); obtain ⟨_, _, _, _, _⟩ := hSw; go_simp; all_goals (with_reducible rfl))
      try simp only [Act.put, List.setIfInBounds_toArray, List.set_cons_zero, List.set_cons_succ]
      refine wpAnyH_take (i := 12) (oi := { dst := some 76, op := Op.fieldAddr 45 (Operand.tmp 6) 1, type := 0, pos := "law.go:104", after := #[{ on := 10, ground := Ground.guard }], guard := some (10, false) }) (v := ?_) rfl (by kernel_rfl) (by kernel_rfl) (by kernel_rfl) (fun _ _ _ h => h) (Or.inl ⟨by rfl, ?hy⟩) hHeld ?_
      case hy => (intro w hSw; (try dsimp only at hSw); obtain ⟨_, _, _, _, _⟩ := hSw; go_simp; all_goals (with_reducible rfl))
      try simp only [Act.put, List.setIfInBounds_toArray, List.set_cons_zero, List.set_cons_succ]
      refine wpAnyH_take (i := 13) (oi := { dst := some 77, op := Op.load 23 (Operand.tmp 76), type := 23, pos := "law.go:104", after := #[{ on := 12, ground := Ground.data }, { on := 10, ground := Ground.guard }], guard := some (10, false) }) (v := .agg (u8s Q.od).toArray) rfl (by kernel_rfl) (by kernel_rfl) (by kernel_rfl) (fun _ _ _ h => h) (Or.inl ⟨by rfl, ?hy⟩) hHeld ?_
      case hy => (intro w hSw; exact run_load_opP hSw.1)
      try simp only [Act.put, List.setIfInBounds_toArray, List.set_cons_zero, List.set_cons_succ]
      refine wpAnyH_take (i := 14) (oi := { dst := some 78, op := Op.fieldAddr 45 (Operand.tmp 6) 3, type := 0, pos := "law.go:104", after := #[{ on := 10, ground := Ground.guard }], guard := some (10, false) }) (v := ?_) rfl (by kernel_rfl) (by kernel_rfl) (by kernel_rfl) (fun _ _ _ h => h) (Or.inl ⟨by rfl, ?hy⟩) hHeld ?_
      case hy => (intro w hSw; (try dsimp only at hSw); obtain ⟨_, _, _, _, _⟩ := hSw; go_simp; all_goals (with_reducible rfl))
      try simp only [Act.put, List.setIfInBounds_toArray, List.set_cons_zero, List.set_cons_succ]
      refine wpAnyH_take (i := 15) (oi := { dst := some 79, op := Op.load 3 (Operand.tmp 78), type := 3, pos := "law.go:104", after := #[{ on := 14, ground := Ground.data }, { on := 10, ground := Ground.guard }], guard := some (10, false) }) (v := ?_) rfl (by kernel_rfl) (by kernel_rfl) (by kernel_rfl) (fun _ _ _ h => h) (Or.inl ⟨by rfl, ?hy⟩) hHeld ?_
      case hy => (intro w hSw; (try dsimp only at hSw); obtain ⟨_, _, _, _, _⟩ := hSw; go_simp; all_goals (with_reducible rfl))
      try simp only [Act.put, List.setIfInBounds_toArray, List.set_cons_zero, List.set_cons_succ]
      refine wpAnyH_take (i := 16) (oi := { dst := some 80, op := Op.fieldAddr 45 (Operand.tmp 6) 5, type := 0, pos := "law.go:104", after := #[{ on := 10, ground := Ground.guard }], guard := some (10, false) }) (v := ?_) rfl (by kernel_rfl) (by kernel_rfl) (by kernel_rfl) (fun _ _ _ h => h) (Or.inl ⟨by rfl, ?hy⟩) hHeld ?_
      case hy => (intro w hSw; (try dsimp only at hSw); obtain ⟨_, _, _, _, _⟩ := hSw; go_simp; all_goals (with_reducible rfl))
      try simp only [Act.put, List.setIfInBounds_toArray, List.set_cons_zero, List.set_cons_succ]
      refine wpAnyH_take (i := 17) (oi := { dst := some 81, op := Op.load 43 (Operand.tmp 80), type := 43, pos := "law.go:104", after := #[{ on := 16, ground := Ground.data }, { on := 10, ground := Ground.guard }], guard := some (10, false) }) (v := ?_) rfl (by kernel_rfl) (by kernel_rfl) (by kernel_rfl) (fun _ _ _ h => h) (Or.inl ⟨by rfl, ?hy⟩) hHeld ?_
      case hy => (intro w hSw; (try dsimp only at hSw); obtain ⟨_, _, _, _, _⟩ := hSw; go_simp; all_goals (with_reducible rfl))
      try simp only [Act.put, List.setIfInBounds_toArray, List.set_cons_zero, List.set_cons_succ]
      refine wpAnyH_take (i := 18) (oi := { dst := some 82, op := Op.fieldAddr 45 (Operand.tmp 6) 6, type := 0, pos := "law.go:104", after := #[{ on := 10, ground := Ground.guard }], guard := some (10, false) }) (v := ?_) rfl (by kernel_rfl) (by kernel_rfl) (by kernel_rfl) (fun _ _ _ h => h) (Or.inl ⟨by rfl, ?hy⟩) hHeld ?_
      case hy => (intro w hSw; (try dsimp only at hSw); obtain ⟨_, _, _, _, _⟩ := hSw; go_simp; all_goals (with_reducible rfl))
      try simp only [Act.put, List.setIfInBounds_toArray, List.set_cons_zero, List.set_cons_succ]
      refine wpAnyH_take (i := 19) (oi := { dst := some 83, op := Op.load 27 (Operand.tmp 82), type := 27, pos := "law.go:104", after := #[{ on := 18, ground := Ground.data }, { on := 10, ground := Ground.guard }], guard := some (10, false) }) (v := ?_) rfl (by kernel_rfl) (by kernel_rfl) (by kernel_rfl) (fun _ _ _ h => h) (Or.inl ⟨by rfl, ?hy⟩) hHeld ?_
      case hy => (intro w hSw; (try dsimp only at hSw); obtain ⟨_, _, _, _, _⟩ := hSw; go_simp; all_goals (with_reducible rfl))
      try simp only [Act.put, List.setIfInBounds_toArray, List.set_cons_zero, List.set_cons_succ]
      refine wpAnyH_take (i := 21) (oi := { dst := some 85, op := Op.fieldAddr 45 (Operand.tmp 6) 7, type := 0, pos := "law.go:104", after := #[{ on := 10, ground := Ground.guard }], guard := some (10, false) }) (v := ?_) rfl (by kernel_rfl) (by kernel_rfl) (by kernel_rfl) (fun _ _ _ h => h) (Or.inl ⟨by rfl, ?hy⟩) hHeld ?_
      case hy => (intro w hSw; (try dsimp only at hSw); obtain ⟨_, _, _, _, _⟩ := hSw; go_simp; all_goals (with_reducible rfl))
      try simp only [Act.put, List.setIfInBounds_toArray, List.set_cons_zero, List.set_cons_succ]
      refine wpAnyH_take (i := 22) (oi := { dst := some 86, op := Op.load 27 (Operand.tmp 85), type := 27, pos := "law.go:104", after := #[{ on := 21, ground := Ground.data }, { on := 10, ground := Ground.guard }], guard := some (10, false) }) (v := ?_) rfl (by kernel_rfl) (by kernel_rfl) (by kernel_rfl) (fun _ _ _ h => h) (Or.inl ⟨by rfl, ?hy⟩) hHeld ?_
      case hy => (intro w hSw; (try dsimp only at hSw); obtain ⟨_, _, _, _, _⟩ := hSw; go_simp; all_goals (with_reducible rfl))
      try simp only [Act.put, List.setIfInBounds_toArray, List.set_cons_zero, List.set_cons_succ]
      refine wpAnyH_take (i := 25) (oi := { dst := some 89, op := Op.move (Operand.tmp 4), type := 42, pos := "law.go:104", after := #[{ on := 10, ground := Ground.guard }], guard := some (10, false) }) (v := ?_) rfl (by kernel_rfl) (by kernel_rfl) (by kernel_rfl) (fun _ _ _ h => h) (Or.inl ⟨by rfl, ?hy⟩) hHeld ?_
      case hy => (intro w hSw; (try dsimp only at hSw); obtain ⟨_, _, _, _, _⟩ := hSw; go_simp; all_goals (with_reducible rfl))
      try simp only [Act.put, List.setIfInBounds_toArray, List.set_cons_zero, List.set_cons_succ]
      refine wpAnyH_take (i := 26) (oi := { dst := some 90, op := Op.fieldAddr 45 (Operand.tmp 6) 1, type := 0, pos := "law.go:104", after := #[{ on := 10, ground := Ground.guard }], guard := some (10, false) }) (v := ?_) rfl (by kernel_rfl) (by kernel_rfl) (by kernel_rfl) (fun _ _ _ h => h) (Or.inl ⟨by rfl, ?hy⟩) hHeld ?_
      case hy => (intro w hSw; (try dsimp only at hSw); obtain ⟨_, _, _, _, _⟩ := hSw; go_simp; all_goals (with_reducible rfl))
      try simp only [Act.put, List.setIfInBounds_toArray, List.set_cons_zero, List.set_cons_succ]
      refine wpAnyH_take (i := 27) (oi := { dst := some 91, op := Op.load 23 (Operand.tmp 90), type := 23, pos := "law.go:104", after := #[{ on := 26, ground := Ground.data }, { on := 10, ground := Ground.guard }], guard := some (10, false) }) (v := .agg (u8s Q.od).toArray) rfl (by kernel_rfl) (by kernel_rfl) (by kernel_rfl) (fun _ _ _ h => h) (Or.inl ⟨by rfl, ?hy⟩) hHeld ?_
      case hy => (intro w hSw; exact run_load_opP hSw.1)
      try simp only [Act.put, List.setIfInBounds_toArray, List.set_cons_zero, List.set_cons_succ]
      refine wpAnyH_take (i := 28) (oi := { dst := some 92, op := Op.fieldAddr 45 (Operand.tmp 6) 3, type := 0, pos := "law.go:104", after := #[{ on := 10, ground := Ground.guard }], guard := some (10, false) }) (v := ?_) rfl (by kernel_rfl) (by kernel_rfl) (by kernel_rfl) (fun _ _ _ h => h) (Or.inl ⟨by rfl, ?hy⟩) hHeld ?_
      case hy => (intro w hSw; (try dsimp only at hSw); obtain ⟨_, _, _, _, _⟩ := hSw; go_simp; all_goals (with_reducible rfl))
      try simp only [Act.put, List.setIfInBounds_toArray, List.set_cons_zero, List.set_cons_succ]
      refine wpAnyH_take (i := 29) (oi := { dst := some 93, op := Op.load 3 (Operand.tmp 92), type := 3, pos := "law.go:104", after := #[{ on := 28, ground := Ground.data }, { on := 10, ground := Ground.guard }], guard := some (10, false) }) (v := ?_) rfl (by kernel_rfl) (by kernel_rfl) (by kernel_rfl) (fun _ _ _ h => h) (Or.inl ⟨by rfl, ?hy⟩) hHeld ?_
      case hy => (intro w hSw; (try dsimp only at hSw); obtain ⟨_, _, _, _, _⟩ := hSw; go_simp; all_goals (with_reducible rfl))
      try simp only [Act.put, List.setIfInBounds_toArray, List.set_cons_zero, List.set_cons_succ]
      refine wpAnyH_take (i := 30) (oi := { dst := some 94, op := Op.fieldAddr 45 (Operand.tmp 6) 5, type := 0, pos := "law.go:104", after := #[{ on := 10, ground := Ground.guard }], guard := some (10, false) }) (v := ?_) rfl (by kernel_rfl) (by kernel_rfl) (by kernel_rfl) (fun _ _ _ h => h) (Or.inl ⟨by rfl, ?hy⟩) hHeld ?_
      case hy => (intro w hSw; (try dsimp only at hSw); obtain ⟨_, _, _, _, _⟩ := hSw; go_simp; all_goals (with_reducible rfl))
      try simp only [Act.put, List.setIfInBounds_toArray, List.set_cons_zero, List.set_cons_succ]
      refine wpAnyH_take (i := 31) (oi := { dst := some 95, op := Op.load 43 (Operand.tmp 94), type := 43, pos := "law.go:104", after := #[{ on := 30, ground := Ground.data }, { on := 10, ground := Ground.guard }], guard := some (10, false) }) (v := ?_) rfl (by kernel_rfl) (by kernel_rfl) (by kernel_rfl) (fun _ _ _ h => h) (Or.inl ⟨by rfl, ?hy⟩) hHeld ?_
      case hy => (intro w hSw; (try dsimp only at hSw); obtain ⟨_, _, _, _, _⟩ := hSw; go_simp; all_goals (with_reducible rfl))
      try simp only [Act.put, List.setIfInBounds_toArray, List.set_cons_zero, List.set_cons_succ]
      refine wpAnyH_take (i := 32) (oi := { dst := some 96, op := Op.fieldAddr 45 (Operand.tmp 6) 6, type := 0, pos := "law.go:104", after := #[{ on := 10, ground := Ground.guard }], guard := some (10, false) }) (v := ?_) rfl (by kernel_rfl) (by kernel_rfl) (by kernel_rfl) (fun _ _ _ h => h) (Or.inl ⟨by rfl, ?hy⟩) hHeld ?_
      case hy => (intro w hSw; (try dsimp only at hSw); obtain ⟨_, _, _, _, _⟩ := hSw; go_simp; all_goals (with_reducible rfl))
      try simp only [Act.put, List.setIfInBounds_toArray, List.set_cons_zero, List.set_cons_succ]
      refine wpAnyH_take (i := 33) (oi := { dst := some 97, op := Op.load 27 (Operand.tmp 96), type := 27, pos := "law.go:104", after := #[{ on := 32, ground := Ground.data }, { on := 10, ground := Ground.guard }], guard := some (10, false) }) (v := ?_) rfl (by kernel_rfl) (by kernel_rfl) (by kernel_rfl) (fun _ _ _ h => h) (Or.inl ⟨by rfl, ?hy⟩) hHeld ?_
      case hy => (intro w hSw; (try dsimp only at hSw); obtain ⟨_, _, _, _, _⟩ := hSw; go_simp; all_goals (with_reducible rfl))
      try simp only [Act.put, List.setIfInBounds_toArray, List.set_cons_zero, List.set_cons_succ]
      refine wpAnyH_take (i := 34) (oi := { dst := some 98, op := Op.fieldAddr 45 (Operand.tmp 6) 7, type := 0, pos := "law.go:104", after := #[{ on := 10, ground := Ground.guard }], guard := some (10, false) }) (v := ?_) rfl (by kernel_rfl) (by kernel_rfl) (by kernel_rfl) (fun _ _ _ h => h) (Or.inl ⟨by rfl, ?hy⟩) hHeld ?_
      case hy => (intro w hSw; (try dsimp only at hSw); obtain ⟨_, _, _, _, _⟩ := hSw; go_simp; all_goals (with_reducible rfl))
      try simp only [Act.put, List.setIfInBounds_toArray, List.set_cons_zero, List.set_cons_succ]
      refine wpAnyH_take (i := 35) (oi := { dst := some 99, op := Op.load 27 (Operand.tmp 98), type := 27, pos := "law.go:104", after := #[{ on := 34, ground := Ground.data }, { on := 10, ground := Ground.guard }], guard := some (10, false) }) (v := ?_) rfl (by kernel_rfl) (by kernel_rfl) (by kernel_rfl) (fun _ _ _ h => h) (Or.inl ⟨by rfl, ?hy⟩) hHeld ?_
      case hy => (intro w hSw; (try dsimp only at hSw); obtain ⟨_, _, _, _, _⟩ := hSw; go_simp; all_goals (with_reducible rfl))
      try simp only [Act.put, List.setIfInBounds_toArray, List.set_cons_zero, List.set_cons_succ]
      refine wpAnyH_ready (rs := [20]) (by kernel_rfl) (by simp) ?_
      refine AllReadyH.cons (o := { dst := some 84, op := Op.call { callee := Callee.value (Operand.func 23), args := #[Operand.tmp 83], argTypes := #[27] }, type := 27, pos := "law.go:104", after := #[{ on := 19, ground := Ground.data }, { on := 10, ground := Ground.chain }, { on := 10, ground := Ground.guard }], guard := some (10, false) }) rfl (fun K hK => ?_) AllReadyH.nil
      go_simp
      refine (ints_any Q.la Q.ln Q.lc Q.ll w8 (HIN5.out.below HB8.out).hl.1 HIN5.out.hl.2.2 HIN5.out.hl.2.1 (by omega)).mono ?_
      rintro e w9 ⟨a9, c9, rfl, hi9, -, -, -, hb9⟩
      have HB9 := hid (HB8.out.trans (hb9.mono HB8.out.size))
      have HI9 := hid hi9
      clear hi9 hb9
      clear hHeld
      go_wp2_with fail
      refine hK.out _ _ (HKS.out _ HB9.out) (fun hHeld => ?_)
      clear hK K
      try simp only [Act.put, List.setIfInBounds_toArray, List.set_cons_zero, List.set_cons_succ]
      refine wpAnyH_ready (rs := [23]) (by kernel_rfl) (by simp) ?_
      refine AllReadyH.cons (o := { dst := some 87, op := Op.call { callee := Callee.value (Operand.func 23), args := #[Operand.tmp 86], argTypes := #[27] }, type := 27, pos := "law.go:104", after := #[{ on := 22, ground := Ground.data }, { on := 20, ground := Ground.chain }, { on := 10, ground := Ground.guard }], guard := some (10, false) }) rfl (fun K hK => ?_) AllReadyH.nil
      go_simp
      refine (ints_any Q.oa Q.on Q.oc Q.ol w9 (HIN5.out.below HB9.out).hq.1 HIN5.out.hq.2.2 HIN5.out.hq.2.1 (by omega)).mono ?_
      rintro e w10 ⟨a10, c10, rfl, hi10, -, -, -, hb10⟩
      have HB10 := hid (HB9.out.trans (hb10.mono HB9.out.size))
      have HI10 := hid hi10
      have HI910 := hid (HI9.out.belowP hb10)
      clear hi10 hb10
      clear hHeld
      go_wp2_with fail
      refine hK.out _ _ (HKS.out _ HB10.out) (fun hHeld => ?_)
      clear hK K
      try simp only [Act.put, List.setIfInBounds_toArray, List.set_cons_zero, List.set_cons_succ]
      refine wpAnyH_ready (rs := [24]) (by kernel_rfl) (by simp) ?_
      refine AllReadyH.cons (o := { dst := some 88, op := Op.call { callee := Callee.value (Operand.func 39), args := #[Operand.tmp 75, Operand.tmp 77, Operand.tmp 79, Operand.tmp 81, Operand.tmp 84, Operand.tmp 87], argTypes := #[40, 23, 3, 43, 27, 27] }, type := 4, pos := "law.go:104", after := #[{ on := 11, ground := Ground.data }, { on := 13, ground := Ground.data }, { on := 15, ground := Ground.data }, { on := 17, ground := Ground.data }, { on := 20, ground := Ground.data }, { on := 23, ground := Ground.data }, { on := 23, ground := Ground.chain }, { on := 10, ground := Ground.guard }], guard := some (10, false) }) rfl (fun K hK => ?_) AllReadyH.nil
      go_simp
      refine (HBK.out w10 HB10.out a9 c9 a10 c10 HI910.out HI10.out).mono ?_
      rintro e w11 ⟨rfl, hb11⟩
      have HB11 := hid (HB10.out.trans (hb11.mono HB10.out.size))
      clear hb11
      clear hHeld
      go_wp2_with fail
      refine hK.out _ _ (HKS.out _ HB11.out) (fun hHeld => ?_)
      clear hK K
      try simp only [Act.put, List.setIfInBounds_toArray, List.set_cons_zero, List.set_cons_succ]
      refine wpAnyH_ready (rs := [36]) (by kernel_rfl) (by simp) ?_
      refine AllReadyH.cons (o := { dst := some 100, op := Op.call { callee := Callee.value (Operand.func 40), args := #[Operand.tmp 89, Operand.tmp 91, Operand.tmp 93, Operand.tmp 95, Operand.tmp 97, Operand.tmp 99], argTypes := #[42, 23, 3, 43, 27, 27] }, type := 4, pos := "law.go:104", after := #[{ on := 25, ground := Ground.data }, { on := 27, ground := Ground.data }, { on := 29, ground := Ground.data }, { on := 31, ground := Ground.data }, { on := 33, ground := Ground.data }, { on := 35, ground := Ground.data }, { on := 24, ground := Ground.chain }, { on := 10, ground := Ground.guard }], guard := some (10, false) }) rfl (fun K hK => ?_) AllReadyH.nil
      go_simp
      refine (HRB.out w11 HB11.out).mono ?_
      rintro e w12 ⟨rfl, hb12⟩
      have HB12 := hid (HB11.out.trans (hb12.mono HB11.out.size))
      clear hb12
      clear hHeld
      go_wp2_with fail
      refine hK.out _ _ (HKS.out _ HB12.out) (fun hHeld => ?_)
      clear hK K
      try simp only [Act.put, List.setIfInBounds_toArray, List.set_cons_zero, List.set_cons_succ]
      refine wpAnyH_take (i := 37) (oi := { dst := some 101, op := Op.binOp BinOp.neq 4 (Operand.tmp 88) (Operand.tmp 100) 4, type := 4, pos := "law.go:104", after := #[{ on := 24, ground := Ground.data }, { on := 36, ground := Ground.data }, { on := 10, ground := Ground.guard }], guard := some (10, false) }) (v := ?_) rfl (by kernel_rfl) (by kernel_rfl) (by kernel_rfl) (fun _ _ _ h => h) (Or.inl ⟨by rfl, ?hy⟩) hHeld ?_
      case hy => (intro w hSw; (try dsimp only at hSw); obtain ⟨_, _, _, _, _⟩ := hSw; go_simp; all_goals (with_reducible rfl))
      try simp only [Act.put, List.setIfInBounds_toArray, List.set_cons_zero, List.set_cons_succ]
      refine wpAnyH_take (i := 38) (oi := { dst := some 102, op := Op.pick (Operand.tmp 74) (Operand.const (Value.bool true)) (Operand.tmp 101), type := 4, pos := "law.go:104", after := #[{ on := 10, ground := Ground.data }, { on := 37, ground := Ground.data }], guard := none }) (v := ?_) rfl (by kernel_rfl) (by kernel_rfl) (by kernel_rfl) (fun _ _ _ h => h) (Or.inl ⟨by rfl, ?hy⟩) hHeld ?_
      case hy => (intro w hSw; (try dsimp only at hSw); obtain ⟨_, _, _, _, _⟩ := hSw; go_simp; all_goals (with_reducible rfl))
      try simp only [Act.put, List.setIfInBounds_toArray, List.set_cons_zero, List.set_cons_succ]
      refine wpAnyH_done (by kernel_rfl) ?_ _
      have HI12 := hid (show ClI w12 B cb mb (i + 1) (.slice ra rn rc) R5 from by rw [HRNE.out]; exact HI5.out.below HB12.out)
      have HB12W := hid (show Below B w w12 from by rw [HBE.out]; exact HB5.out.trans (HB12.out.mono HB5.out.size))
      go_wp2_with fail
      exact ⟨⟨i + 1, R5, by omega, by go_num, HI12, HB12W⟩, by simp [intOf]; omega⟩
end Go.Proofs.YtjgiiciniplbnaaGreatDoor

namespace Go.Proofs.YtjgiiciniplbnaaGreatDoor.placeClaims
open Go.ChangeShapes Go.WideShapes Go.ChangeAt Go.RowKit Go.WideMaps Go.WideElems
open Go.ChangeMaps (open_string shut_string)
set_option linter.unusedVariables false

set_option maxRecDepth 100000 in
theorem lifted (os : Os) (started : os.Started) (H : Type) (enc : TypeId × Value → H) :
    ReturnsInHanded {} Tryz.checked os 5 .any (fun w args => (Rows.placeClaimsSpec.pre enc Tryz.prog Tryz.f5 [] false w args ∧ laidMetH Tryz.prog laidB w) ∧ sizedMet enc Tryz.prog Tryz.f5 (OpenSpec.ofChange Rows.placeClaimsSpec) false w args)
      (Rows.placeClaimsSpec.post enc Tryz.prog Tryz.f5 false true false false) := by
  refine returnsInHanded_of_change_and (C := Tryz.checked) (X := fun w _ => laidMetH Tryz.prog laidB w) (fun _ _ _ hh h => h.of_heap hh) ownD started (by kernel_rfl) Tryz.func5
    (ChangeSpec.witness_shaped (enc := enc) (C := Tryz.checked) (os := os) (X := fun w _ => laidMetH Tryz.prog laidB w) false (World.doorLaid Tryz.prog 24 os) #[.slice none 0 0] 8 rfl (World.shaped_of_RefB (by kernel_rfl) (by kernel_rfl)) (by kernel_rfl) (by kernel_rfl) (by kernel_rfl) (door_metB os _)) ?_
  intro W base args ds gs before hval0 hW _ _ hL _
  have hval : ∀ (j : Nat) t v, Tryz.f5.params[j]? = some t → args[j]? = some v → Value.okWide Tryz.prog W .any base t v := hval0
  have hW' := hW
  obtain ⟨p, q, hA0, hV, rfl, hfz, hnd⟩ := hW
  have hA : DataW.TrodAll enc Tryz.prog W 0 (fun _ => true) true Tryz.f5.params.toList args.toList ds p := hA0
  rw [Tryz.params5] at hA hval
  obtain ⟨v0, vs0, d0, ds0, p0, q0, hargs, rfl, rfl, h0, r0⟩ := trodAll_cons hA
  obtain ⟨rfl, rfl, rfl⟩ := trodAll_nil r0
  obtain rfl : args = #[v0] := by cases args; simp_all
  obtain ⟨rfl, rfl⟩ := trodVars_none hV
  obtain ⟨a0, len0, cap0, rfl⟩ := okWide_slice Tryz.underlying39 (hval 0 39 v0 rfl rfl)
  have k0 := h0
  have lt0 : ∀ x ∈ p0, x.block < W.heap.size := by obtain ⟨m, hm⟩ := k0; exact DataW.trod_lt m _ _ _ hm
  obtain ⟨q0q, c0⟩ : ∃ q, Nts W a0 len0 q := by
    obtain ⟨fuel, hf⟩ := h0
    obtain ⟨a', n', c', q, hcs, hx⟩ := open_notes hf
    simp [Value.cells] at hcs
    obtain ⟨rfl, rfl, rfl⟩ := hcs
    exact ⟨q, hx⟩
  clear hA0 hval0
  refine (cl_walk W (vars_of_laidB hL) (rnds_of_laidB hL) a0 len0 cap0 q0q c0).mono fun e W' ⟨he, bel⟩ => ?_
  subst he
  exact ⟨_, rfl, _, _, _, [], _, [], hW', trodAll_mk1 (shut_bool Tryz.underlying4 _), (trodAll_cons_mk (Below.trod Facts.laidOut (by kernel_rfl) (of_decide_eq_true (by kernel_rfl)) k0 bel lt0) trodAll_mk0), rfl, bel.frame _, fun h => by cases h⟩

set_option maxHeartbeats 4000000 in
set_option maxRecDepth 1000000 in
theorem closed : joinedFacts Tryz.pinned.checked.prog 5 Tryz.f5 Rows.placeClaimsSpec Rows.placeClaimsRow = true := by
  unfold joinedFacts
  refine (Facts.and2 (Facts.and2 (Facts.and2 (Facts.and2 (Facts.and2 (Facts.and2 (Facts.and2 (Facts.and2 (Facts.and2 (Facts.and2 (Facts.and2 (Facts.and2 (Facts.and2 (Facts.and2 (Facts.and2 (Facts.and2 (Facts.and2 (Facts.and2 (Facts.and2 (Facts.and2 (Facts.and2 (Facts.and2 (Facts.and2 (Facts.and2 (Facts.and2 (Facts.and2 (Facts.and2 (Facts.and2 (Facts.and2 (Facts.and2 (Facts.and2 ?_ Facts.laidOut) Facts.mapsR) ?_) ?_) ?_) Facts.stops) ?_) Facts.knobs) ?_) ?_) ?_) ?_) ?_) ?_) ?_) ?_) ?_) ?_) ?_) ?_) ?_) Facts.keys) ?_) Facts.heard) Facts.enter) ?_) ?_) ?_) ?_) ?_) ?_)
  all_goals (as_aux_lemma => kernel_rfl)

theorem over : Rows.placeClaimsRow.holds Tryz.pinned (OpenSpec.ofChange Rows.placeClaimsSpec) :=
  OpenClaim.holds_of_wide 5 Tryz.f5 rfl rfl rfl rfl rfl rfl rfl ⟨rfl, rfl, rfl, rfl, rfl⟩ rfl rfl rfl rfl rfl (by as_aux_lemma => kernel_rfl) Tryz.func5 closed
    (of_decide_eq_true (by as_aux_lemma => kernel_rfl)) (by unfold Func.isWrapper; first | (rw [if_pos (by decide +kernel)]; kernel_rfl) | (rw [if_neg (by decide +kernel)]; exact ⟨rfl, rfl⟩))
    (fun os started H enc _ => lifted os started H enc)
end Go.Proofs.YtjgiiciniplbnaaGreatDoor.placeClaims
namespace Go.Proofs.YtjgiiciniplbnaaGreatDoor
open Go
set_option maxHeartbeats 4000000 in
set_option maxRecDepth 1000000 in
theorem placeClaims_holds : Rows.PlaceClaimsCardSaid :=
  Claim7.holds_tied_plain_at .later [] [.data, .data, .data] true (true, "4a085e94ccebdf24e9b63843c722f4a968f2e6f610b760c9b6f284c344973c54") false
    placeClaims.over (fun _ h => by cases h) (by as_aux_lemma => kernel_rfl) (fun _ h => by cases h) placeClaims_row_tie rfl ⟨rfl, rfl⟩ (by as_aux_lemma => kernel_rfl) rfl
    (fun f fn hf hfn => by
      obtain rfl : f = 5 := Option.some.inj ((show Tryz.prog.funcNamed "stolon/stolonlaw07.PlaceClaims" = some 5 by as_aux_lemma => kernel_rfl).symm.trans hf) |>.symm
      obtain rfl : fn = Tryz.f5 := (Option.some.inj (Tryz.func5.symm.trans hfn)).symm
      exact ⟨by as_aux_lemma => kernel_rfl, fun j t ht => by
        rw [Tryz.params5] at ht
        rcases j with _ | j
        · obtain rfl : t = 39 := by simpa using ht.symm
          exact (show Tryz.prog.wantsStandIn 39 = false by as_aux_lemma => kernel_rfl)
        · simp at ht⟩)
    (by as_aux_lemma => kernel_rfl)
#print axioms placeClaims_holds
end Go.Proofs.YtjgiiciniplbnaaGreatDoor
