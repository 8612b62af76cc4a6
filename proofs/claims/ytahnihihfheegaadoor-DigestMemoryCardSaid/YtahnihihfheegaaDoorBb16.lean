/-
  The reference's Assemble. · The given arguments as lists: bytes, numbers, pieces. · The given argument of chapter 2 that is a case. · A case in memory; large. · Rebuild and the reference's Again: one piece from others; the errors.
-/
import Derived.Test.YtahnihihfheegaaDoorBb15
import Derived.Test.YtahnihihfheegaaDoorBb4
import Derived.WalkKit
import Derived.ProofKit
import Derived.OpenShut
import Derived.Deep.SlicePairs
import Derived.Test.YtahnihihfheegaaDoorBb13
import Derived.Test.YtahnihihfheegaaDoorBb14
namespace Go.Proofs.YtahnihihfheegaaDoor
open Go Go.RowKit
set_option linter.unusedVariables false

/-- bytes and an error, of the reference -/
def AsmRef (x : Int) (L : List Nat) (e : Ending) (w' : World) : Prop := ∃ ra rc, e = .returned (.tuple #[.slice ra L.length rc, .int .i64 x]) ∧ Bs w' (.slice ra L.length rc) L
theorem asmRef_none (x : Int) (w : World) : AsmRef x [] (.returned (.tuple #[.slice none 0 0, .int .i64 x])) w := ⟨_, _, rfl, bs_nil _⟩
theorem asmRef_any {O : List Nat} {ja : Option Addr} {jc sz : Nat} {w' : World} (hl : O.length = sz) (h : Bs w' (.slice ja sz jc) O) : AsmRef 0 O (.returned (.tuple #[.slice ja sz jc, .int .i64 0])) w' := by
  subst hl
  exact ⟨_, _, rfl, h⟩

set_option maxRecDepth 100000 in
set_option maxHeartbeats 4000000 in
theorem rasm_any (w : World) (V : Rnds w) (k n t s : Int) (od : List Nat) (a : Option Addr) (m c : Nat) (D : List (List Nat)) (ho : od.length = 32) (hD : Dgs w a m c D) (pa : Option Addr) (pn pc : Nat) (ps : List (Int × Sl)) (Dd : Nat → List Nat) (hp : Ps w (.slice pa pn pc) ps) (hd : PDat w ps Dd) (hpn : pn ≤ 100000) (hpc : pn ≤ pc) :
    Calls Tryd.prog 15 #[.agg (mcells k n t s od (.slice a m c)).toArray, .slice pa pn pc] w fun e w' => AsmRef (asmE k n t s m od D ps Dd pn) (asmL k n t s m od D ps Dd pn) e w' ∧ Below w.heap.size w w' := by
  obtain ⟨w0, hw0⟩ : ∃ y, y = w.alloc (.cells (mcells k n t s od (.slice a m c)).toArray 27) := ⟨_, rfl⟩
  have HB0 := hid (show Below w.heap.size w w0 from by rw [hw0]; exact (Below.refl _ _).alloc (Nat.le_refl _) _)
  have HM := hid (show ManAt w0 w.heap.size k n t s od (.slice a m c) from by rw [hw0]; exact heap_new _ _)
  have HIF := hid (show (Tryd.prog.info? 27).map (·.size) = some (mcells k n t s od (.slice a m c)).length from by rw [mcells_length _ _ _ _ _ _ ho]; kernel_rfl)
  have HCM := hid (fun wx => valid_any k n t s od a m c ho wx)
  have HCK := hid (fun (wx : World) (b : Below w.heap.size w wx) => rkp_any wx (V.below b) k n t s od a m c D ho (hD.below b) pa pn pc ps Dd (hp.below b) (hd.below b) hpn)
  have HRA := hid (range_of_heapI HM.out)
  have HO := hid ho
  have HV := hid V
  have HPD := hid hd
  have HPP := hid hp
  have HN := hid (show pn = ps.length from by obtain ⟨_, _, h, _⟩ := hp; simp at h; exact h.2.1)
  clear ho V hD hd hp
  cases hv : manB k n t s m with
  | false => as_aux_lemma =>
    have HR1 := hid (show asmE k n t s m od D ps Dd pn = 2 from by unfold asmE; rw [hv]; rfl)
    have HR2 := hid (show asmL k n t s m od D ps Dd pn = [] from by unfold asmL; rw [HR1.out]; rfl)
    rw [hv] at HCM
    clear hv HCK
    go_enter Tryd.func15, Tryd.ntmps15
    go_upto_region 1 with fail
    change Code.wp _ _ _ _ (w.alloc (.cells (mcells k n t s od (.slice a m c)).toArray 27))
    rw [← hw0]
    clear hw0
    go_wp2_with (refine wpList_load_mid (by rfl) 27 (.tmp 2) (by rfl) w.heap.size 0 (by rfl) (mcells k n t s od (.slice a m c)) _ HRA.out Tryd.underlying27 rfl HIF.out ?_)
    refine (HCM.out w0).mono ?_
    rintro e w3 ⟨rfl, hb3⟩
    have HB3 := hid (HB0.out.trans (hb3.mono HB0.out.size))
    clear hb3
    go_wp2
    go_ret2
    exact ⟨by rw [HR1.out, HR2.out]; exact asmRef_none _ _, HB3.out⟩
  | true =>
    rw [hv] at HCM
    have hnum : 1 ≤ k ∧ k ≤ n ∧ n ≤ t ∧ t ≤ 255 ∧ 0 ≤ s ∧ s ≤ 8192 := by
      have hok := hv
      unfold manB vnB vcB at hok
      simp only [Bool.and_eq_true, decide_eq_true_eq] at hok
      omega
    have HU := hid (show asmE k n t s m od D ps Dd pn = (if dAll k (pidx ps) (fun i => cpE k n t s m D (pidx ps i) (Dd i)) pn = 0 then (if dig shaRound shaStart (objL k s ps Dd) = od then 0 else 20) else dAll k (pidx ps) (fun i => cpE k n t s m D (pidx ps i) (Dd i)) pn) from by unfold asmE; rw [if_pos hv])
    clear hv
    by_cases hda : dAll k (pidx ps) (fun i => cpE k n t s m D (pidx ps i) (Dd i)) pn = 0
    case neg => as_aux_lemma =>
      have HR1 := hid (show asmE k n t s m od D ps Dd pn = dAll k (pidx ps) (fun i => cpE k n t s m D (pidx ps i) (Dd i)) pn from by rw [HU.out, if_neg hda])
      have HR2 := hid (show asmL k n t s m od D ps Dd pn = [] from by unfold asmL; rw [HR1.out, if_neg hda])
      have b1 : (dAll k (pidx ps) (fun i => cpE k n t s m D (pidx ps i) (Dd i)) pn != 0) = true := by simpa using hda
      clear HU hnum hda
      generalize dAll k (pidx ps) (fun i => cpE k n t s m D (pidx ps i) (Dd i)) pn = E at HR1 b1 HCK
      go_enter Tryd.func15, Tryd.ntmps15
      go_upto_region 1 with fail
      change Code.wp _ _ _ _ (w.alloc (.cells (mcells k n t s od (.slice a m c)).toArray 27))
      rw [← hw0]
      clear hw0
      go_wp2_with (refine wpList_load_mid (by rfl) 27 (.tmp 2) (by rfl) w.heap.size 0 (by rfl) (mcells k n t s od (.slice a m c)) _ HRA.out Tryd.underlying27 rfl HIF.out ?_)
      refine (HCM.out w0).mono ?_
      rintro e w3 ⟨rfl, hb3⟩
      have HB3 := hid (HB0.out.trans (hb3.mono HB0.out.size))
      have HR3 := hid (range_below HRA.out hb3)
      clear hb3
      go_wp2_with (refine wpList_load_mid (by rfl) 27 (.tmp 2) (by rfl) w.heap.size 0 (by rfl) (mcells k n t s od (.slice a m c)) _ HR3.out Tryd.underlying27 rfl HIF.out ?_)
      refine (HCK.out w3 HB3.out).mono ?_
      rintro e w4 ⟨rfl, hb4⟩
      have HB4 := hid (HB3.out.trans (hb4.mono HB3.out.size))
      clear hb4
      go_wp2
      go_ret2
      exact ⟨by rw [HR1.out, HR2.out]; exact asmRef_none _ _, HB4.out⟩
    case pos =>
      obtain ⟨hz, hkp, hlen⟩ := rs_right (t := t) HPD.out HN.out hda
      rw [hda] at HCK
      have HDC := hid (fun (wx : World) (b : Below w.heap.size w wx) => Join_okN k.toNat t.toNat s.toNat pa pn pc ps Dd (by omega) (by omega) (by omega) (by omega) hpn hpc wx (HPP.out.below b) (fun i h => (HPD.out i h).1.below b) (by rw [show ((k.toNat : Nat) : Int) = k from by omega, show ((t.toNat : Nat) : Int) = t from by omega]; exact hz))
      rw [show ((k.toNat : Nat) : Int) = k from by omega, show ((t.toNat : Nat) : Int) = t from by omega, show ((s.toNat : Nat) : Int) = s from by omega] at HDC
      have hlt : ∀ y ∈ objL k s ps Dd, y < 256 := objL_lt fun i j hi => (HPD.out i (by have := HN.out; omega)).1.lt j
      have HLT := hid hlt
      have HUE := hid (show asmE k n t s m od D ps Dd pn = (if dig shaRound shaStart (objL k s ps Dd) = od then 0 else 20) from by rw [HU.out, if_pos hda])
      have HOL := hid (objL_length k s ps Dd)
      obtain ⟨O, hO⟩ : ∃ O, O = objL k s ps Dd := ⟨_, rfl⟩
      have HOO := hid hO
      have HDC2 := hid (fun (wx : World) (b : Below w.heap.size w wx) => (HDC.out wx b).mono (fun e w' (h : ∃ ja jc, e = .returned (.tuple #[.slice ja s.toNat jc, .int .i64 0]) ∧ Bs w' (.slice ja s.toNat jc) (objL k s ps Dd) ∧ (ja = none → jc = 0) ∧ Below wx.heap.size wx w') => h))
      have hob : s.toNat ≤ 8192 := by omega
      rw [← hO] at HUE HLT HOL HDC2
      have hY32 : (dig shaRound shaStart O).length = 32 := dig_length _ _ _
      obtain ⟨Y, hY⟩ : ∃ Y, Y = dig shaRound shaStart O := ⟨_, rfl⟩
      have HSH := hid (fun (wx : World) (V : Rnds wx) (ja : Option Addr) (jc : Nat) (h : Bs wx (.slice ja s.toNat jc) O) (hn : ja = none → jc = 0) => rsum_any O ja s.toNat jc wx V h hn (by omega))
      rw [← hY] at HSH hY32 HUE
      have HEQ := hid (fun wx => eql_any Y od hY32 HO.out wx)
      have HASL := hid (show asmL k n t s m od D ps Dd pn = if asmE k n t s m od D ps Dd pn = 0 then O else [] from by unfold asmL; rw [hO])
      have HIFZ := hid (show (Tryd.prog.info? 24).map (·.size) = some (u8s od).length from by simp only [u8s, List.length_map, HO.out]; kernel_rfl)
      have hq0 : ∀ (q : Bool), q = decide (Y = od) → asmE k n t s m od D ps Dd pn = if q then 0 else 20 := by
        rintro q rfl
        rw [HUE.out]
        by_cases h : Y = od
        · rw [if_pos h, decide_eq_true h]; rfl
        · rw [if_neg h, decide_eq_false h]; rfl
      generalize hq : decide (Y = od) = q at *
      have HQ := hid (hq0 q rfl)
      clear hq0 hq hY hY32 hO HUE HDC hz hkp hlen hda HU hlt
      cases q
      all_goals as_aux_lemma =>
        go_enter Tryd.func15, Tryd.ntmps15
        go_upto_region 1 with fail
        change Code.wp _ _ _ _ (w.alloc (.cells (mcells k n t s od (.slice a m c)).toArray 27))
        rw [← hw0]
        clear hw0
        go_wp2_with (refine wpList_load_mid (by rfl) 27 (.tmp 2) (by rfl) w.heap.size 0 (by rfl) (mcells k n t s od (.slice a m c)) _ HRA.out Tryd.underlying27 rfl HIF.out ?_)
        refine (HCM.out w0).mono ?_
        rintro e w3 ⟨rfl, hb3⟩
        have HB3 := hid (HB0.out.trans (hb3.mono HB0.out.size))
        have HR3 := hid (range_below HRA.out hb3)
        have HM3 := hid ((hb3.block _ (lt_of_heap HM.out)).trans HM.out)
        clear hb3
        go_wp2_with (refine wpList_load_mid (by rfl) 27 (.tmp 2) (by rfl) w.heap.size 0 (by rfl) (mcells k n t s od (.slice a m c)) _ HR3.out Tryd.underlying27 rfl HIF.out ?_)
        refine (HCK.out w3 HB3.out).mono ?_
        rintro e w4 ⟨rfl, hb4⟩
        have HB4 := hid (HB3.out.trans (hb4.mono HB3.out.size))
        have HM4 := hid (show ManAt w4 w.heap.size k n t s od (.slice a m c) from (hb4.block _ (lt_of_heap HM3.out)).trans HM3.out)
        clear hb4
        obtain ⟨c0, -, c2, c3, -⟩ := HM4.out.c HO.out
        go_wp2_with fail
        refine (HDC2.out w4 HB4.out).mono ?_
        rintro e w5 ⟨ja, jc, rfl, hbs5, hnil5, hk5⟩
        have HK5 := hid (HB4.out.trans (hk5.mono HB4.out.size))
        have HBS5 := hid hbs5
        have HNL5 := hid hnil5
        have HR5 := hid (man_range4A (show ManAt w5 w.heap.size k n t s od (.slice a m c) from (hk5.block _ (lt_of_heap HM4.out)).trans HM4.out))
        have HV5 := hid (HV.out.below HK5.out)
        have hne : Nonempty (Cls fun w' => Below w5.heap.size w5 w') := ⟨⟨w5, Below.refl _ _⟩⟩
        have HSQ := hid (fun (p : Cls fun w' => Below w5.heap.size w5 w') => HSH.out p.w (HV5.out.below p.h) ja jc (HBS5.out.below p.h) HNL5.out)
        have HRQ := hid (fun (p : Cls fun w' => Below w5.heap.size w5 w') => range_below HR5.out p.h)
        have e1 := fun wx => HEQ.out wx
        clear hk5 hbs5 hnil5 c0 c2 c3
        go_upto_region 7 with fail
        refine wp_region_class_lit (G := fun w' => Below w5.heap.size w5 w') (by kernel_rfl) (by kernel_rfl) (bel_drewN (Below.refl _ _) 1) ?_
        iterate 3 (go_big_quiet_step ((go_at_call 31; exact Calls.cls (HSQ.out _))))
        refine wpQuiet_load_clsW (by rfl) 24 (.tmp 31) (by rfl) w.heap.size 4 (by rfl) (u8s od) _ HRQ.out Tryd.underlying24 rfl HIFZ.out ?_
        rintro _ rfl
        try simp only [Act.put, List.setIfInBounds_toArray, List.set_cons_zero, List.set_cons_succ]
        repeat (go_big_quiet_step ((go_at_call 31; exact Calls.cls (HSQ.out _))))
        refine wpQuiet_nil ?_
        rintro _ ⟨⟨wp, hwp⟩, rfl⟩
        have HBP := hid hwp
        have HKP := hid (HK5.out.trans (hwp.mono HK5.out.size))
        have HBSP := hid (HBS5.out.below hwp)
        clear hwp e1 HSQ HRQ hne
        go_wp2
        go_ret2
        refine ⟨?_, HKP.out⟩
        rw [HASL.out, HQ.out]
        first
          | exact asmRef_none _ _
          | exact asmRef_any HOL.out HBSP.out
end Go.Proofs.YtahnihihfheegaaDoor

namespace Go.Proofs.YtahnihihfheegaaDoor
open Go.ChangeShapes Go.WideShapes Go.ChangeAt Go.RowKit
set_option linter.unusedVariables false

/-- a slice of bytes that came in -/
def By (W : World) (a : Option Addr) (n c : Nat) (l : List Nat) : Prop := Bs W (.slice a n c) l ∧ n ≤ c ∧ (a = none → c = 0)
/-- a slice of numbers that reads as l -/
def Is (w : World) (v : Value) (l : List Int) : Prop :=
  ∃ a c, v = .slice a l.length c ∧ (∀ n ∈ l, (Lit.int .i64 n).wf = true) ∧ (l ≠ [] → ∃ b o, a = some ⟨b, o, none⟩ ∧ ∀ i, i < l.length → w.cell? ⟨b, o + i, none⟩ = some (.int .i64 (l.getD i 0)))
/-- a slice of pieces that came in -/
def Pcn (W : World) (a : Option Addr) (n c : Nat) (ps : List (Int × Sl)) (D : Nat → List Nat) : Prop :=
  Ps W (.slice a n c) ps ∧ n ≤ c ∧ (a = none → c = 0) ∧ ∀ i, (h : i < ps.length) → (Lit.int .i64 ps[i].1).wf = true ∧ By W ps[i].2.1 ps[i].2.2.1 ps[i].2.2.2 (D i)

theorem add_none (b o i : Nat) : (⟨b, o, none⟩ : Addr).add i = ⟨b, o + i, none⟩ := by unfold Addr.add; split <;> simp_all

section
variable {H : Type} {enc : TypeId × Value → H} {W : World}

theorem open_by {fuel : Nat} {cs : List Value} {x : DataW H × List MemPlace} (h : DataW.trod enc Tryd.prog W 0 (fun _ => true) true fuel 22 cs = some x) : ∃ a n c l, cs = [.slice a n c] ∧ By W a n c l := by
  rcases open_ints Tryd.underlying22 Tryd.underlying5 (by kernel_rfl) h with ⟨hcs, _⟩ | ⟨a, l, c, zs, hcs, _, hl, hm, hz, _, hcell, hwz⟩
  · exact ⟨none, 0, 0, [], hcs, bs_nil W, Nat.le_refl _, fun _ => rfl⟩
  · exact ⟨some a, l, c, _, hcs, bs_of_ints hl (by simpa using hz) hcell hwz, hl, fun h => by cases h⟩
theorem open_is {fuel : Nat} {cs : List Value} {x : DataW H × List MemPlace} (h : DataW.trod enc Tryd.prog W 0 (fun _ => true) true fuel 29 cs = some x) : ∃ a n c l, cs = [.slice a n c] ∧ Is W (.slice a n c) l ∧ n ≤ c ∧ (a = none → c = 0) := by
  rcases open_ints Tryd.underlying29 Tryd.underlying3 (by kernel_rfl) h with ⟨hcs, _⟩ | ⟨a, len, c, zs, hcs, _, hl, hm, hz, _, hcell, hwz⟩
  · exact ⟨none, 0, 0, [], hcs, ⟨none, 0, rfl, fun n h => absurd h List.not_mem_nil, fun h => absurd rfl h⟩, Nat.le_refl _, fun _ => rfl⟩
  · have hz' : zs.length = c := by simpa using hz
    have hlen : (zs.take len).length = len := by simp; omega
    refine ⟨some a, len, c, zs.take len, hcs, ⟨some a, c, by rw [hlen], fun n hn => hwz n (List.mem_of_mem_take hn), fun hne => ?_⟩, hl, fun h => by cases h⟩
    have h0 : 0 < len := by
      rcases Nat.eq_zero_or_pos len with h | h
      · subst h; exact absurd rfl hne
      · exact h
    obtain ⟨b, o, spot⟩ := a
    have hc := hcell 0 (by omega)
    have hspot : spot = none := by simpa [Addr.add] using World.cell?_spot hc
    subst hspot
    refine ⟨b, o, rfl, fun i hi => ?_⟩
    rw [hlen] at hi
    have h1 := hcell i (by omega)
    rw [add_none] at h1
    rw [h1, List.getD_eq_getElem?_getD, List.getD_eq_getElem?_getD, List.getElem?_take_of_lt hi]

theorem open_pcn {fuel : Nat} {cs : List Value} {x : DataW H × List MemPlace} (h : DataW.trod enc Tryd.prog W 0 (fun _ => true) true fuel 28 cs = some x) : ∃ a n c ps D, cs = [.slice a n c] ∧ Pcn W a n c ps D := by
  rcases Deep.open_slice_pairs Tryd.underlying28 Tryd.underlying44 (by kernel_rfl) rfl rfl (by kernel_rfl) (by kernel_rfl) h with ⟨hcs, _⟩ | ⟨a, len, cap, m, n, V0, V1, D0, D1, P0, P1, hcs, _, hl, _, hm, _, hx⟩
  · exact ⟨none, 0, 0, [], fun _ => [], hcs, ⟨none, 0, rfl, fun h => absurd rfl h⟩, Nat.le_refl _, fun _ => rfl, fun i h => absurd h (Nat.not_lt_zero _)⟩
  · have hm' : m = cap := by simpa using hm
    have each : ∀ i, i < len → ∃ q : (Int × Sl) × List Nat, V0 i = .int .i64 q.1.1 ∧ V1 i = .slice q.1.2.1 q.1.2.2.1 q.1.2.2.2 ∧ (Lit.int .i64 q.1.1).wf = true ∧ By W q.1.2.1 q.1.2.2.1 q.1.2.2.2 q.2 := fun i hi => by
      obtain ⟨_, _, h0, h1⟩ := hx i (by omega)
      obtain ⟨y, e0, _, hwf⟩ := DataW.trod_int Tryd.underlying3 h0
      obtain ⟨a', n', c', l', e1, hb⟩ := open_by h1
      simp only [List.cons.injEq, and_true] at e0 e1
      exact ⟨((y, a', n', c'), l'), e0, e1, hwf, hb⟩
    obtain ⟨q, hq⟩ := Deep.choose_lt each
    have hlen : ((List.range len).map fun i => (q i).1).length = len := by simp
    refine ⟨some a, len, cap, (List.range len).map fun i => (q i).1, fun i => (q i).2, hcs, ⟨some a, cap, by rw [hlen], fun hne => ?_⟩, hl, fun h => (by cases h), fun i hi => ?_⟩
    · have h0 : 0 < len := by
        rcases Nat.eq_zero_or_pos len with h | h
        · subst h; exact absurd rfl hne
        · exact h
      obtain ⟨b, o, spot⟩ := a
      obtain ⟨hc, _⟩ := hx 0 (by omega)
      have hspot : spot = none := by simpa [Addr.add] using World.cell?_spot hc
      subst hspot
      refine ⟨b, o, rfl, fun i hi => ?_⟩
      rw [hlen] at hi
      obtain ⟨h1, h2, _⟩ := hx i (by omega)
      rw [add_none] at h1 h2
      obtain ⟨e0, e1, _⟩ := hq i hi
      rw [e0] at h1
      rw [e1] at h2
      simpa using ⟨h1, h2⟩
    · rw [hlen] at hi
      obtain ⟨_, _, h2, h3⟩ := hq i hi
      simpa using ⟨h2, h3⟩
end
end Go.Proofs.YtahnihihfheegaaDoor

namespace Go.Proofs.YtahnihihfheegaaDoor
open Go.ChangeShapes Go.WideShapes Go.ChangeAt Go.RowKit
set_option linter.unusedVariables false

section
variable {H : Type} {enc : TypeId × Value → H} {W : World}

set_option maxRecDepth 100000 in
theorem open_manC {fuel : Nat} {l : List Value} {x : DataW H × List MemPlace} (hf : DataW.trod enc Tryd.prog W 0 (fun _ => true) true fuel 27 l = some x) (hl37 : l.length = 37) :
    ∃ (k n t s : Int) (od : List Nat) (a : Option Addr) (m c : Nat) (D : List (List Nat)), l = mcells k n t s od (.slice a m c) ∧ od.length = 32 ∧ (∀ y ∈ od, y < 256) ∧ Dgs W a m c D := by
  obtain ⟨xs, n, rfl, _, _, hxl, hg⟩ := DataW.trod_struct Tryd.underlying27 hf
  match xs, hxl with
  | [y0, y1, y2, y3, y4, y5], _ =>
  have g0 := hg 0 _ rfl
  have g1 := hg 1 _ rfl
  have g2 := hg 2 _ rfl
  have g3 := hg 3 _ rfl
  have g4 := hg 4 _ rfl
  have g5 := hg 5 _ rfl
  obtain ⟨k, f0, _, w0⟩ := DataW.trod_int Tryd.underlying3 g0
  obtain ⟨n', f1, _, w1⟩ := DataW.trod_int Tryd.underlying3 g1
  obtain ⟨t, f2, _, w2⟩ := DataW.trod_int Tryd.underlying3 g2
  obtain ⟨s, f3, _, w3⟩ := DataW.trod_int Tryd.underlying3 g3
  have e30 : Tryd.prog.cellsOf 24 = 32 := by kernel_rfl
  obtain ⟨od, f4, ho1, ho2⟩ := open_arr32D g4 (by simp; omega)
  obtain ⟨a, m, c, D, f5, hD⟩ := open_dgs g5
  refine ⟨k, n', t, s, od, a, m, c, D, ?_, ho1, ho2, hD⟩
  have r0 : l[0]? = some (.int .i64 k) := chunkL f0
  have r1 : l[1]? = some (.int .i64 n') := chunkL f1
  have r2 : l[2]? = some (.int .i64 t) := chunkL f2
  have r3 : l[3]? = some (.int .i64 s) := chunkL f3
  have r5 : l[36]? = some (.slice a m c) := chunkL f5
  have r4 : ∀ i, i < 32 → l[4 + i]? = (u8s od)[i]? := fun i hi => by
    have h : (List.take 32 (List.drop 4 l))[i]? = (u8s od)[i]? := congrArg (·[i]?) f4
    rw [← h, List.getElem?_take_of_lt hi, List.getElem?_drop]
  have hml := mcells_length k n' t s od (.slice a m c) ho1
  apply List.ext_getElem?
  intro i
  by_cases hi : i < 37
  · rcases (show i = 0 ∨ i = 1 ∨ i = 2 ∨ i = 3 ∨ (∃ j, i = 4 + j ∧ j < 32) ∨ i = 36 from by
      rcases (show i < 4 ∨ i = 36 ∨ (4 ≤ i ∧ i < 36) from by omega) with h | h | h
      · omega
      · exact .inr (.inr (.inr (.inr (.inr h))))
      · exact .inr (.inr (.inr (.inr (.inl ⟨i - 4, by omega, by omega⟩))))) with rfl | rfl | rfl | rfl | ⟨j, rfl, hj⟩ | rfl
    · rw [r0]; rfl
    · rw [r1]; rfl
    · rw [r2]; rfl
    · rw [r3]; rfl
    · rw [r4 j hj]
      unfold mcells
      rw [List.append_assoc, List.getElem?_append_right (by simp), List.getElem?_append_left (by simp [u8s, ho1]; omega)]
      simp
    · rw [r5]
      unfold mcells
      rw [List.getElem?_append_right (by simp [u8s, ho1])]
      simp [u8s, ho1]
  · rw [List.getElem?_eq_none (by omega), List.getElem?_eq_none (by omega)]

/-- a case that came in -/
structure CaseD (W : World) (v : Value) (K N T I : Int) (da : Option Addr) (dl dc : Nat) (ld : List Nat) (mk mn mt ms : Int) (mo : List Nat) (ma : Option Addr) (mm mc : Nat) (mD : List (List Nat)) (pa : Option Addr) (pl pc : Nat) (ps : List (Int × Sl)) (D : Nat → List Nat) (ia : Option Addr) (il ic : Nat) (li : List Int) : Prop where
  eq : v = .agg (([.int .i64 K, .int .i64 N, .int .i64 T, .int .i64 I, .slice da dl dc] : List Value) ++ mcells mk mn mt ms mo (.slice ma mm mc) ++ ([.slice pa pl pc, .slice ia il ic] : List Value)).toArray
  wf : (Lit.int .i64 K).wf = true ∧ (Lit.int .i64 N).wf = true ∧ (Lit.int .i64 T).wf = true ∧ (Lit.int .i64 I).wf = true
  data : By W da dl dc ld
  mo32 : mo.length = 32
  molt : ∀ y ∈ mo, y < 256
  man : Dgs W ma mm mc mD
  pieces : Pcn W pa pl pc ps D
  by_ : Is W (.slice ia il ic) li ∧ il ≤ ic ∧ (ia = none → ic = 0)
def CaseWD (W : World) (v : Value) : Prop := ∃ K N T I da dl dc ld mk mn mt ms mo ma mm mc mD pa pl pc ps D ia il ic li, CaseD W v K N T I da dl dc ld mk mn mt ms mo ma mm mc mD pa pl pc ps D ia il ic li
set_option maxRecDepth 100000 in
theorem open_caseD {base : Nat} {v : Value} {d : DataW H} {p : List MemPlace} (hval : Value.okWide Tryd.prog W .any base 31 v) (h : DataW.Trod enc Tryd.prog W 0 (fun _ => true) true 31 v d p) : CaseWD W v := by
  obtain ⟨cs, rfl, hsz⟩ := okWide_struct Tryd.underlying31 hval
  rw [show Tryd.prog.cellsOf 31 = 44 from by kernel_rfl] at hsz
  obtain ⟨l⟩ := cs
  match l, hsz with
  | c0 :: c1 :: c2 :: c3 :: c4 :: c5 :: c6 :: c7 :: c8 :: c9 :: c10 :: c11 :: c12 :: c13 :: c14 :: c15 :: c16 :: c17 :: c18 :: c19 :: c20 :: c21 :: c22 :: c23 :: c24 :: c25 :: c26 :: c27 :: c28 :: c29 :: c30 :: c31 :: c32 :: c33 :: c34 :: c35 :: c36 :: c37 :: c38 :: c39 :: c40 :: c41 :: c42 :: c43 :: [], _ =>
  obtain ⟨fuel, hf⟩ := h
  obtain ⟨xs, n, rfl, _, _, hxl, hg⟩ := DataW.trod_struct Tryd.underlying31 hf
  have e3 : Tryd.prog.cellsOf 3 = 1 := by kernel_rfl
  have e5 : Tryd.prog.cellsOf 22 = 1 := by kernel_rfl
  have e37 : Tryd.prog.cellsOf 27 = 37 := by kernel_rfl
  have e28 : Tryd.prog.cellsOf 28 = 1 := by kernel_rfl
  have e38 : Tryd.prog.cellsOf 29 = 1 := by kernel_rfl
  match xs, hxl with
  | [y0, y1, y2, y3, y4, y5, y6, y7], _ =>
  have g0 := hg 0 _ rfl
  have g1 := hg 1 _ rfl
  have g2 := hg 2 _ rfl
  have g3 := hg 3 _ rfl
  have g4 := hg 4 _ rfl
  have g5 := hg 5 _ rfl
  have g6 := hg 6 _ rfl
  have g7 := hg 7 _ rfl
  simp [Value.cells, e3, e5, e28, e37, e38] at g0 g1 g2 g3 g4 g5 g6 g7
  obtain ⟨K, f0, _, w0⟩ := DataW.trod_int Tryd.underlying3 g0
  obtain ⟨N, f1, _, w1⟩ := DataW.trod_int Tryd.underlying3 g1
  obtain ⟨T, f2, _, w2⟩ := DataW.trod_int Tryd.underlying3 g2
  obtain ⟨I, f3, _, w3⟩ := DataW.trod_int Tryd.underlying3 g3
  obtain ⟨da, dl, dc, ld, f4, hd⟩ := open_by g4
  obtain ⟨mk, mn, mt, ms, mo, ma, mm, mc, mD, f5, hmo, hml, hmD⟩ := open_manC g5 rfl
  obtain ⟨pa, pl, pc, ps, D, f6, hp⟩ := open_pcn g6
  obtain ⟨ia, il, ic, li, f7, hi⟩ := open_is g7
  simp only [List.cons.injEq, and_true] at f0 f1 f2 f3 f4 f6 f7
  refine ⟨K, N, T, I, da, dl, dc, ld, mk, mn, mt, ms, mo, ma, mm, mc, mD, pa, pl, pc, ps, D, ia, il, ic, li, ?_, ⟨w0, w1, w2, w3⟩, hd, hmo, hml, hmD, hp, hi⟩
  show Value.agg (([c0, c1, c2, c3, c4] : List Value) ++ (c5 :: c6 :: c7 :: c8 :: c9 :: c10 :: c11 :: c12 :: c13 :: c14 :: c15 :: c16 :: c17 :: c18 :: c19 :: c20 :: c21 :: c22 :: c23 :: c24 :: c25 :: c26 :: c27 :: c28 :: c29 :: c30 :: c31 :: c32 :: c33 :: c34 :: c35 :: c36 :: c37 :: c38 :: c39 :: c40 :: c41 :: []) ++ [c42, c43]).toArray = _
  rw [f5, f0, f1, f2, f3, f4, f6, f7]
end
end Go.Proofs.YtahnihihfheegaaDoor

namespace Go.Proofs.YtahnihihfheegaaDoor
open Go Go.RowKit
set_option linter.unusedVariables false

def plenL (ps : List (Int × Sl)) (j : Nat) : Nat := (ps.getD j (0, none, 0, 0)).2.2.1
theorem plenL_at (ps : List (Int × Sl)) (i : Nat) (h : i < ps.length) : (ps[i]'h).2.2.1 = plenL ps i := by
  unfold plenL
  rw [List.getD_eq_getElem?_getD, List.getElem?_eq_getElem h]
  rfl
/-- the cells of a case -/
def cc (K N T I : Int) (dv : Value) (mk mn mt ms : Int) (mo : List Nat) (mv pv iv : Value) : List Value := ([.int .i64 K, .int .i64 N, .int .i64 T, .int .i64 I, dv] : List Value) ++ mcells mk mn mt ms mo mv ++ ([pv, iv] : List Value)
theorem cc_length (K N T I : Int) (dv : Value) (mk mn mt ms : Int) (mo : List Nat) (mv pv iv : Value) (h : mo.length = 32) : (cc K N T I dv mk mn mt ms mo mv pv iv).length = 44 := by
  unfold cc
  rw [List.length_append, List.length_append, mcells_length _ _ _ _ _ _ h]
  rfl
def CaseAt (w : World) (b : Nat) (K N T I : Int) (dv : Value) (mk mn mt ms : Int) (mo : List Nat) (mv pv iv : Value) : Prop := w.heap[b]? = some (.cells (cc K N T I dv mk mn mt ms mo mv pv iv).toArray 31 (0, 0))
theorem CaseAt.c {w : World} {b : Nat} {K N T I : Int} {dv : Value} {mk mn mt ms : Int} {mo : List Nat} {mv pv iv : Value} (h : CaseAt w b K N T I dv mk mn mt ms mo mv pv iv) :
    w.cell? ⟨b, 0, none⟩ = some (.int .i64 K) ∧ w.cell? ⟨b, 1, none⟩ = some (.int .i64 N) ∧ w.cell? ⟨b, 2, none⟩ = some (.int .i64 T) ∧ w.cell? ⟨b, 3, none⟩ = some (.int .i64 I) ∧ w.cell? ⟨b, 4, none⟩ = some dv :=
  ⟨by rw [cell_of_heap h]; rfl, by rw [cell_of_heap h]; rfl, by rw [cell_of_heap h]; rfl, by rw [cell_of_heap h]; rfl, by rw [cell_of_heap h]; rfl⟩
theorem cc_hi (K N T I : Int) (dv : Value) (mk mn mt ms : Int) (mo : List Nat) (mv pv iv : Value) (h : mo.length = 32) : (cc K N T I dv mk mn mt ms mo mv pv iv)[41]? = some mv ∧ (cc K N T I dv mk mn mt ms mo mv pv iv)[42]? = some pv ∧ (cc K N T I dv mk mn mt ms mo mv pv iv)[43]? = some iv := by
  have hm := mcells_length mk mn mt ms mo mv h
  have h5 : (([.int .i64 K, .int .i64 N, .int .i64 T, .int .i64 I, dv] : List Value) ++ mcells mk mn mt ms mo mv).length = 42 := by rw [List.length_append, hm]; rfl
  unfold cc
  refine ⟨?_, ?_, ?_⟩
  · rw [List.getElem?_append_left (by rw [h5]; decide), List.getElem?_append_right (by simp)]
    show (mcells mk mn mt ms mo mv)[36]? = _
    unfold mcells
    rw [List.getElem?_append_right (by simp [u8s, h])]
    simp [u8s, h]
  · rw [List.getElem?_append_right (by rw [h5]; decide), h5]; rfl
  · rw [List.getElem?_append_right (by rw [h5]; decide), h5]; rfl
theorem CaseAt.hi {w : World} {b : Nat} {K N T I : Int} {dv : Value} {mk mn mt ms : Int} {mo : List Nat} {mv pv iv : Value} (h : CaseAt w b K N T I dv mk mn mt ms mo mv pv iv) (ho : mo.length = 32) :
    w.cell? ⟨b, 41, none⟩ = some mv ∧ w.cell? ⟨b, 42, none⟩ = some pv ∧ w.cell? ⟨b, 43, none⟩ = some iv := by
  obtain ⟨h1, h2, h3⟩ := cc_hi K N T I dv mk mn mt ms mo mv pv iv ho
  exact ⟨by rw [cell_of_heap h, List.getElem?_toArray]; exact h1, by rw [cell_of_heap h, List.getElem?_toArray]; exact h2, by rw [cell_of_heap h, List.getElem?_toArray]; exact h3⟩

def cz : Array Value := (cc 0 0 0 0 (.slice none 0 0) 0 0 0 0 (List.replicate 32 0) (.slice none 0 0) (.slice none 0 0) (.slice none 0 0)).toArray
/-- what large answers -/
def LrgTo (pl mm dl il : Nat) (ps : List (Int × Sl)) (w : World) (e : Ending) (w' : World) : Prop :=
  Below w.heap.size w w' ∧ ∃ r, e = .returned (.bool r) ∧ (r = false → pl ≤ 60 ∧ mm ≤ 400 ∧ dl ≤ 10000 ∧ il ≤ 60 ∧ ∀ j, j < ps.length → plenL ps j ≤ 9000)

set_option maxRecDepth 100000 in
set_option maxHeartbeats 4000000 in
theorem large_any (K N T I : Int) (da : Option Addr) (dl dc : Nat) (mk mn mt ms : Int) (mo : List Nat) (ma : Option Addr) (mm mc : Nat) (pa : Option Addr) (pl pc : Nat) (ps : List (Int × Sl)) (ia : Option Addr) (il ic : Nat) (w : World) (ho : mo.length = 32) (hp : Ps w (.slice pa pl pc) ps) :
    Calls Tryd.prog 8 #[.agg (cc K N T I (.slice da dl dc) mk mn mt ms mo (.slice ma mm mc) (.slice pa pl pc) (.slice ia il ic)).toArray] w (LrgTo pl mm dl il ps w) := by
  obtain ⟨w1, hw1⟩ : ∃ y, y = w.alloc (.cells (cc K N T I (.slice da dl dc) mk mn mt ms mo (.slice ma mm mc) (.slice pa pl pc) (.slice ia il ic)).toArray 31) := ⟨_, rfl⟩
  have HB1 := hid (show Below w.heap.size w w1 from by rw [hw1]; exact (Below.refl _ _).alloc (Nat.le_refl _) _)
  have hC : CaseAt w1 w.heap.size K N T I (.slice da dl dc) mk mn mt ms mo (.slice ma mm mc) (.slice pa pl pc) (.slice ia il ic) := by rw [hw1]; exact heap_new _ _
  obtain ⟨-, -, -, -, c4⟩ := hC.c
  obtain ⟨c41, c42, c43⟩ := hC.hi ho
  have HP := hid (hp.below HB1.out)
  have HN := hid (show pl = ps.length from by obtain ⟨_, _, h1, _⟩ := hp; simp only [Value.slice.injEq] at h1; exact h1.2.1)
  clear hC hp ho
  by_cases g1 : 60 < pl
  · as_aux_lemma =>
    have i1 : 60 < (pl : Int) := by omega
    go_enter Tryd.func8, Tryd.ntmps8
    go_upto_region 1 with fail
    change Code.wp _ _ _ _ (w.alloc (.cells (cc K N T I (.slice da dl dc) mk mn mt ms mo (.slice ma mm mc) (.slice pa pl pc) (.slice ia il ic)).toArray 31))
    rw [← hw1]
    clear hw1
    go_wp2
    go_ret
    exact ⟨HB1.out, true, rfl, fun h => by cases h⟩
  have i1 : ¬ 60 < (pl : Int) := by omega
  by_cases g2 : 400 < mm
  · as_aux_lemma =>
    have i2 : 400 < (mm : Int) := by omega
    go_enter Tryd.func8, Tryd.ntmps8
    go_upto_region 1 with fail
    change Code.wp _ _ _ _ (w.alloc (.cells (cc K N T I (.slice da dl dc) mk mn mt ms mo (.slice ma mm mc) (.slice pa pl pc) (.slice ia il ic)).toArray 31))
    rw [← hw1]
    clear hw1
    go_wp2
    go_ret
    exact ⟨HB1.out, true, rfl, fun h => by cases h⟩
  have i2 : ¬ 400 < (mm : Int) := by omega
  by_cases g3 : 10000 < dl
  · as_aux_lemma =>
    have i3 : 10000 < (dl : Int) := by omega
    go_enter Tryd.func8, Tryd.ntmps8
    go_upto_region 1 with fail
    change Code.wp _ _ _ _ (w.alloc (.cells (cc K N T I (.slice da dl dc) mk mn mt ms mo (.slice ma mm mc) (.slice pa pl pc) (.slice ia il ic)).toArray 31))
    rw [← hw1]
    clear hw1
    go_wp2
    go_ret
    exact ⟨HB1.out, true, rfl, fun h => by cases h⟩
  have i3 : ¬ 10000 < (dl : Int) := by omega
  by_cases g4 : 60 < il
  · as_aux_lemma =>
    have i4 : 60 < (il : Int) := by omega
    go_enter Tryd.func8, Tryd.ntmps8
    go_upto_region 1 with fail
    change Code.wp _ _ _ _ (w.alloc (.cells (cc K N T I (.slice da dl dc) mk mn mt ms mo (.slice ma mm mc) (.slice pa pl pc) (.slice ia il ic)).toArray 31))
    rw [← hw1]
    clear hw1
    go_wp2
    go_ret
    exact ⟨HB1.out, true, rfl, fun h => by cases h⟩
  have i4 : ¬ 60 < (il : Int) := by omega
  go_enter Tryd.func8, Tryd.ntmps8
  go_upto_region 1 with fail
  change Code.wp _ _ _ _ (w.alloc (.cells (cc K N T I (.slice da dl dc) mk mn mt ms mo (.slice ma mm mc) (.slice pa pl pc) (.slice ia il ic)).toArray 31))
  rw [← hw1]
  clear hw1
  go_wp2
  go_loop [3] (fun iv => ∃ i : Nat, i ≤ pl ∧ iv = .int .i64 i ∧ Hid (∀ j, j < i → plenL ps j ≤ 9000)) (fun iv => pl - (intOf iv).toNat)
  case atStart => exact ⟨0, by omega, rfl, hid fun j h => absurd h (Nat.not_lt_zero _)⟩
  case round =>
    obtain ⟨i, hi, rfl, HLE⟩ := hrel
    by_cases hlt : i < pl
    · have j1 : (i : Int) < (pl : Int) := by omega
      have hi2 : i < ps.length := by rw [← HN.out]; exact hlt
      obtain ⟨b, o, rfl⟩ : ∃ b o, pa = some ⟨b, o, none⟩ := by
        obtain ⟨a', c', h1, h3⟩ := HP.out
        obtain ⟨b, o, ha, _⟩ := h3 (by intro e; rw [e] at hi2; exact absurd hi2 (Nat.not_lt_zero _))
        simp at h1
        exact ⟨b, o, h1.1.trans ha⟩
      obtain ⟨q0, q1⟩ := HP.out.cells i hi2
      rw [plenL_at] at q1
      obtain ⟨dn, hdn⟩ : ∃ m, m = plenL ps i := ⟨_, rfl⟩
      rw [← hdn] at q1
      generalize (ps[i]'_).2.1 = xa at *
      generalize (ps[i]'_).2.2.2 = xc at *
      have HDN := hid hdn
      clear hdn q0
      by_cases g9 : 9000 < dn
      · have j9 : 9000 < (dn : Int) := by omega
        go_wp2
        go_ret
        exact ⟨HB1.out, true, rfl, fun h => by cases h⟩
      · have j9 : ¬ 9000 < (dn : Int) := by omega
        have HLE2 := hid (show ∀ j, j < i + 1 → plenL ps j ≤ 9000 from fun j hj => by
          by_cases e : j = i
          · rw [e, ← HDN.out]; omega
          · exact HLE.out j (by omega))
        go_wp2
        exact ⟨⟨i + 1, by omega, by go_num, HLE2⟩, by simp [intOf]; omega⟩
    · obtain rfl : i = pl := by omega
      go_wp2
      go_ret
      exact ⟨HB1.out, false, rfl, fun _ => ⟨by omega, by omega, by omega, by omega, fun j hj => HLE.out j (by rw [HN.out]; exact hj)⟩⟩
end Go.Proofs.YtahnihihfheegaaDoor

namespace Go.Proofs.YtahnihihfheegaaDoor
open Go Go.RowKit
set_option linter.unusedVariables false

/-- a piece and an error -/
def PieceRes (i : Int) (m : Nat) (x : Int) (L : List Nat) (e : Ending) (w' : World) : Prop := ∃ ra rc, e = .returned (.tuple #[.agg #[.int .i64 i, .slice ra m rc], .int .i64 x]) ∧ Bs w' (.slice ra m rc) L
theorem known_endR {W w w' : World} (h : Below W.heap.size W w) (h2 : Below w.heap.size w w') : Below W.heap.size W w' := h.trans (h2.mono h.size)
/-- a piece whose bytes lie in a block -/
def PieceResN (B : Nat) (i : Int) (m : Nat) (L : List Nat) (e : Ending) (w' : World) : Prop := ∃ oc, B ≤ oc ∧ e = .returned (.tuple #[.agg #[.int .i64 i, .slice (some ⟨oc, 0, none⟩) m m], .int .i64 0]) ∧ Bs w' (.slice (some ⟨oc, 0, none⟩) m m) L
theorem PieceResN.res {B : Nat} {i : Int} {m : Nat} {L : List Nat} {e : Ending} {w' : World} (h : PieceResN B i m L e w') : PieceRes i m 0 L e w' := by
  obtain ⟨oc, _, h1, h2⟩ := h
  exact ⟨_, _, h1, h2⟩
theorem pieceRes_none (x : Int) (w : World) : PieceRes 0 0 x [] (.returned (.tuple #[.agg #[.int .i64 0, .slice none 0 0], .int .i64 x])) w := ⟨_, _, rfl, bs_nil _⟩

theorem Rebuild_size (fb : Nat) (k t i : Int) (a : Option Addr) (n c : Nat) (h : ¬ (1 ≤ k ∧ k ≤ t ∧ t ≤ 255 ∧ 0 ≤ i ∧ i < t)) (w : World) :
    Calls Tryd.prog 32 #[.pointer (some ⟨fb, 0, none⟩), .int .i64 k, .int .i64 t, .slice a n c, .int .i64 i] w fun e w' => PieceRes 0 0 2 [] e w' ∧ Below w.heap.size w w' := by
  have hnot : ∀ (x : Bool) (w : World), (Op.unary .not (.bool x)).run Tryd.prog w = .ok (.bool (!x)) w := fun _ _ => rfl
  have hb0 : Below w.heap.size w (w.alloc (Obj.cells #[.int .i64 0, .slice none 0 0] 44)) := (Below.refl _ _).alloc (Nat.le_refl _) _
  by_cases h1 : 1 ≤ k ∧ k ≤ t ∧ t ≤ 255
  · obtain ⟨a1, a2, a3⟩ := h1
    by_cases h2 : i < 0
    · clear h
      go_enter Tryd.func32, Tryd.ntmps32
      go_wp2_with fail
      refine (valid_yes k t a1 a2 a3 _).mono ?_
      rintro e w' ⟨rfl, rfl⟩
      go_wp2
      exact bodyPost_ret (v := .tuple #[.agg #[.int .i64 0, .slice none 0 0], .int .i64 2]) (by simp [results, Tryd.results32, go_sem]) rfl ⟨pieceRes_none _ _, hb0⟩
    · have h3 : t ≤ i := by omega
      clear h
      go_enter Tryd.func32, Tryd.ntmps32
      go_wp2_with fail
      refine (valid_yes k t a1 a2 a3 _).mono ?_
      rintro e w' ⟨rfl, rfl⟩
      go_wp2
      exact bodyPost_ret (v := .tuple #[.agg #[.int .i64 0, .slice none 0 0], .int .i64 2]) (by simp [results, Tryd.results32, go_sem]) rfl ⟨pieceRes_none _ _, hb0⟩
  · have H := hid h1
    clear h h1
    go_enter Tryd.func32, Tryd.ntmps32
    go_wp2_with fail
    refine (valid_no k t H.out _).mono ?_
    rintro e w' ⟨rfl, rfl⟩
    go_wp2
    exact bodyPost_ret (v := .tuple #[.agg #[.int .i64 0, .slice none 0 0], .int .i64 2]) (by simp [results, Tryd.results32, go_sem]) rfl ⟨pieceRes_none _ _, hb0⟩
theorem Again_size (k t i : Int) (a : Option Addr) (n c : Nat) (h : ¬ (1 ≤ k ∧ k ≤ t ∧ t ≤ 255 ∧ 0 ≤ i ∧ i < t)) (w : World) :
    Calls Tryd.prog 34 #[.int .i64 k, .int .i64 t, .slice a n c, .int .i64 i] w fun e w' => PieceRes 0 0 2 [] e w' ∧ Below w.heap.size w w' := by
  have hnot : ∀ (x : Bool) (w : World), (Op.unary .not (.bool x)).run Tryd.prog w = .ok (.bool (!x)) w := fun _ _ => rfl
  have hb0 : Below w.heap.size w (w.alloc (Obj.cells #[.int .i64 0, .slice none 0 0] 44)) := (Below.refl _ _).alloc (Nat.le_refl _) _
  by_cases h1 : 1 ≤ k ∧ k ≤ t ∧ t ≤ 255
  · obtain ⟨a1, a2, a3⟩ := h1
    by_cases h2 : i < 0
    · clear h
      go_enter Tryd.func34, Tryd.ntmps34
      go_wp2_with fail
      refine (rsizes_yes k t a1 a2 a3 _).mono ?_
      rintro e w' ⟨rfl, rfl⟩
      go_wp2
      exact bodyPost_ret (v := .tuple #[.agg #[.int .i64 0, .slice none 0 0], .int .i64 2]) (by simp [results, Tryd.results34, go_sem]) rfl ⟨pieceRes_none _ _, hb0⟩
    · have h3 : t ≤ i := by omega
      clear h
      go_enter Tryd.func34, Tryd.ntmps34
      go_wp2_with fail
      refine (rsizes_yes k t a1 a2 a3 _).mono ?_
      rintro e w' ⟨rfl, rfl⟩
      go_wp2
      exact bodyPost_ret (v := .tuple #[.agg #[.int .i64 0, .slice none 0 0], .int .i64 2]) (by simp [results, Tryd.results34, go_sem]) rfl ⟨pieceRes_none _ _, hb0⟩
  · have H := hid h1
    clear h h1
    go_enter Tryd.func34, Tryd.ntmps34
    go_wp2_with fail
    refine (rsizes_no k t H.out _).mono ?_
    rintro e w' ⟨rfl, rfl⟩
    go_wp2
    exact bodyPost_ret (v := .tuple #[.agg #[.int .i64 0, .slice none 0 0], .int .i64 2]) (by simp [results, Tryd.results34, go_sem]) rfl ⟨pieceRes_none _ _, hb0⟩

theorem piece_free {w w' : World} {b B : Nat} {x y : Value} {t : TypeId} (h : w.heap[b]? = some (.cells #[x, y] t (0, 0))) (hb : Below B w w') (hB : b < B) : w'.cell? ⟨b, 0, none⟩ = some x ∧ w'.cell? ⟨b, 1, none⟩ = some y ∧ w'.frozen? ⟨b, 0, none⟩ = false ∧ w'.frozen? ⟨b, 1, none⟩ = false := by
  have h2 := (hb.block b hB).trans h
  exact ⟨cell_of_heap h2 0, cell_of_heap h2 1, free_of_heap h2 0, free_of_heap h2 1⟩

theorem Rebuild_err (fb k t i : Nat) (a : Option Addr) (n c : Nat) (ps : List (Int × Sl)) (h1 : 1 ≤ k) (h2 : k ≤ t) (h3 : t ≤ 255) (h4 : i < t) (hn : n ≤ 100000) (w : World) (hp : Ps w (.slice a n c) ps) (x : Int)
    (hx : chkAll k t (pidx ps) (alikeE ps) n = x) (hne : x ≠ 0) :
    Calls Tryd.prog 32 #[.pointer (some ⟨fb, 0, none⟩), .int .i64 k, .int .i64 t, .slice a n c, .int .i64 i] w fun e w' => PieceRes 0 0 x [] e w' ∧ Below w.heap.size w w' := by
  have hnot : ∀ (x : Bool) (w : World), (Op.unary .not (.bool x)).run Tryd.prog w = .ok (.bool (!x)) w := fun _ _ => rfl
  have bn : (x != 0) = true := by simpa using hne
  have b1 : decide ((i : Int) < 0) = false := by simp
  have b2 : decide (t ≤ i) = false := by simp; omega
  have HP := hid hp
  have hc := fun w0 h0 => checkAlike_any (k : Int) (t : Int) a n c ps w0 (by omega) (HP.out.below h0) hn
  rw [hx] at hc
  have HC := hid hc
  have hb0 : Below w.heap.size w (w.alloc (Obj.cells #[.int .i64 0, .slice none 0 0] 44)) := (Below.refl _ _).alloc (Nat.le_refl _) _
  clear hp hne hc hx
  go_enter Tryd.func32, Tryd.ntmps32
  go_wp2_with fail
  refine (valid_yes k t (by omega) (by omega) (by omega) _).mono ?_
  rintro e w' ⟨rfl, rfl⟩
  go_wp2_with fail
  refine (HC.out _ hb0).mono ?_
  rintro e w5 ⟨rfl, hb⟩
  obtain ⟨d0, d1, f0, f1⟩ := piece_free (heap_new w (Obj.cells #[.int .i64 0, .slice none 0 0] 44)) hb (by simp)
  have hbe := known_endR hb0 hb
  go_wp2
  exact bodyPost_ret (v := .tuple #[.agg #[.int .i64 0, .slice none 0 0], .int .i64 x]) (by simp [results, Tryd.results32, go_sem, d0, d1]) rfl ⟨pieceRes_none _ _, by first | exact hbe | exact (hbe.setCell (by simp) _).setCell (by simp) _⟩
theorem Again_err (k t i : Nat) (a : Option Addr) (n c : Nat) (ps : List (Int × Sl)) (h1 : 1 ≤ k) (h2 : k ≤ t) (h3 : t ≤ 255) (h4 : i < t) (hn : n ≤ 100000) (w : World) (hp : Ps w (.slice a n c) ps) (x : Int)
    (hx : chkAll k t (pidx ps) (alikeE ps) n = x) (hne : x ≠ 0) :
    Calls Tryd.prog 34 #[.int .i64 k, .int .i64 t, .slice a n c, .int .i64 i] w fun e w' => PieceRes 0 0 x [] e w' ∧ Below w.heap.size w w' := by
  have hnot : ∀ (x : Bool) (w : World), (Op.unary .not (.bool x)).run Tryd.prog w = .ok (.bool (!x)) w := fun _ _ => rfl
  have bn : (x != 0) = true := by simpa using hne
  have b1 : decide ((i : Int) < 0) = false := by simp
  have b2 : decide (t ≤ i) = false := by simp; omega
  have HP := hid hp
  have hc := fun w0 h0 => refcheck_alike (k : Int) (t : Int) a n c ps w0 (HP.out.below h0) hn
  rw [hx] at hc
  have HC := hid hc
  have hb0 : Below w.heap.size w (w.alloc (Obj.cells #[.int .i64 0, .slice none 0 0] 44)) := (Below.refl _ _).alloc (Nat.le_refl _) _
  clear hp hne hc hx
  go_enter Tryd.func34, Tryd.ntmps34
  go_wp2_with fail
  refine (rsizes_yes k t (by omega) (by omega) (by omega) _).mono ?_
  rintro e w' ⟨rfl, rfl⟩
  go_wp2_with fail
  refine (HC.out _ hb0).mono ?_
  rintro e w5 ⟨rfl, hb⟩
  obtain ⟨d0, d1, f0, f1⟩ := piece_free (heap_new w (Obj.cells #[.int .i64 0, .slice none 0 0] 44)) hb (by simp)
  have hbe := known_endR hb0 hb
  go_wp2
  exact bodyPost_ret (v := .tuple #[.agg #[.int .i64 0, .slice none 0 0], .int .i64 x]) (by simp [results, Tryd.results34, go_sem, d0, d1]) rfl ⟨pieceRes_none _ _, by first | exact hbe | exact (hbe.setCell (by simp) _).setCell (by simp) _⟩

theorem Bs.set_offR {w : World} {v : Value} {l : List Nat} (h : Bs w v l) {b : Nat} (ho : Off b v) (i : Nat) (u : Value) : Bs (w.setCell ⟨b, i, none⟩ u) v l :=
  h.kept (Kept.setCell (Kept.refl b w) rfl u) ho
theorem alike_fit {k t : Int} {ps : List (Int × Sl)} {n : Nat} (h : Fit k t (pidx ps) (alikeE ps) n) : ∀ i, i < n → plen' ps i = plen' ps 0 ∧ plen' ps i ≤ 8192 := fun i hi => by
  have h5 := h.ok i hi
  unfold alikeE alikeL at h5
  by_cases e : 8192 < plen' ps i
  · rw [if_pos e] at h5; omega
  · rw [if_neg e] at h5
    by_cases e2 : plen' ps i = plen' ps 0
    · exact ⟨e2, by omega⟩
    · rw [if_neg e2] at h5; omega
theorem mixL_bs {w : World} {ob : Nat} {D : List (List Nat)} {ws : List Nat} {L k : Nat} (h : Own w ob (mixL D ws L k)) (hw : ∀ i, ws.getD i 0 < 256) : Bs w (.slice (some ⟨ob, 0, none⟩) L L) (mixL D ws L k) := by
  have h5 := h.bs (mixL_lt D ws L k hw) L
  rwa [mixL_length] at h5

set_option maxRecDepth 100000 in
set_option maxHeartbeats 2000000 in
theorem Again_okN (k t x : Nat) (a : Option Addr) (n c : Nat) (ps : List (Int × Sl)) (D : Nat → List Nat) (h1 : 1 ≤ k) (h2 : k ≤ t) (h3 : t ≤ 255) (h4 : x < t) (hn : n ≤ 100000) (hnc : n ≤ c) (w : World) (hp : Ps w (.slice a n c) ps)
    (hD : ∀ i, (h : i < ps.length) → Bs w (.slice ps[i].2.1 ps[i].2.2.1 ps[i].2.2.2) (D i)) (hz : chkAll k t (pidx ps) (alikeE ps) n = 0) :
    Calls Tryd.prog 34 #[.int .i64 k, .int .i64 t, .slice a n c, .int .i64 x] w fun e w' => PieceResN w.heap.size x (plen' ps 0) (mixL ((List.range k).map D) (wts (places ps k) (scales (places ps k)) x) (plen' ps 0) k) e w' ∧ Below w.heap.size w w' := by
  have hnot : ∀ (x : Bool) (w : World), (Op.unary .not (.bool x)).run Tryd.prog w = .ok (.bool (!x)) w := fun _ _ => rfl
  have hfit := fit_of hz
  have hkn : k ≤ n := by have := hfit.few; omega
  have hnp : n = ps.length := by obtain ⟨_, _, h, _⟩ := hp; simp at h; exact h.2.1
  obtain ⟨b, o, rfl⟩ : ∃ b o, a = some ⟨b, o, none⟩ := by
    obtain ⟨a', c', e1, e3⟩ := hp
    obtain ⟨b, o, ha, _⟩ := e3 (by intro e; rw [e] at hnp; simp at hnp; omega)
    simp at e1
    exact ⟨b, o, e1.1.trans ha⟩
  have b1 : decide ((x : Int) < 0) = false := by simp
  have b2 : decide (t ≤ x) = false := by simp; omega
  have HP := hid hp
  have hc := fun w0 h0 => refcheck_alike (k : Int) (t : Int) (some ⟨b, o, none⟩) n c ps w0 (HP.out.below h0) hn
  rw [hz] at hc
  have HC := hid hc
  have hal := alike_fit hfit
  have hLb := (hal 0 (by omega)).2
  have hb0 : Below w.heap.size w (w.alloc (Obj.cells #[.int .i64 0, .slice none 0 0] 44)) := (Below.refl _ _).alloc (Nat.le_refl _) _
  have HV := hid (fun w0 (h0 : Below w.heap.size w w0) => value_any k n b o c (plen' ps 0) x ps D w0 h1 (by omega) hkn hnc (by omega) (by omega) (HP.out.below h0) (fun i h => (hD i h).below h0) (fun i h => (hal i (by omega)).1) (fun i h => ⟨hfit.lo i (by omega), by have := hfit.hi i (by omega); omega⟩) (places_nodup hfit))
  have hx2 : x < 256 := by omega
  clear hp hD hc hal hfit hnp hz
  generalize plen' ps 0 = L at *
  go_enter Tryd.func34, Tryd.ntmps34
  go_wp2_with fail
  refine (rsizes_yes k t (by omega) (by omega) (by omega) _).mono ?_
  rintro e w' ⟨rfl, rfl⟩
  go_wp2_with fail
  refine (HC.out _ hb0).mono ?_
  rintro e w5 ⟨rfl, hb⟩
  have hbe := known_endR hb0 hb
  have HX := hid (heap_new w (Obj.cells #[.int .i64 0, .slice none 0 0] 44))
  go_wp2_with fail
  refine (HV.out _ hbe).mono ?_
  rintro e w6 ⟨oc, hoc, rfl, ho, hb6⟩
  obtain ⟨d0, d1, f0, f1⟩ := piece_free HX.out (known_endR hb hb6) (by simp)
  have hbf := known_endR hbe hb6
  have hsz := hb.size
  rw [World.size_alloc] at hsz
  have hbs := mixL_bs ho (fun i => getD_lt (wts_lt _ _ _) i)
  have HBS := hid (hbs.set_offR (b := w.heap.size) (show oc ≠ w.heap.size by omega) 0 (.int .i64 x))
  have HB2 := hid (HBS.out.set_offR (b := w.heap.size) (show oc ≠ w.heap.size by omega) 1 (.slice (some ⟨oc, 0, none⟩) L L))
  clear hbs
  go_wp2
  exact bodyPost_ret (v := .tuple #[.agg #[.int .i64 x, .slice (some ⟨oc, 0, none⟩) L L], .int .i64 0]) (by simp [results, Tryd.results34, go_sem, d0, d1]) rfl ⟨⟨_, by omega, rfl, HB2.out⟩, (hbf.setCell (by simp) _).setCell (by simp) _⟩
theorem Again_ok (k t x : Nat) (a : Option Addr) (n c : Nat) (ps : List (Int × Sl)) (D : Nat → List Nat) (h1 : 1 ≤ k) (h2 : k ≤ t) (h3 : t ≤ 255) (h4 : x < t) (hn : n ≤ 100000) (hnc : n ≤ c) (w : World) (hp : Ps w (.slice a n c) ps)
    (hD : ∀ i, (h : i < ps.length) → Bs w (.slice ps[i].2.1 ps[i].2.2.1 ps[i].2.2.2) (D i)) (hz : chkAll k t (pidx ps) (alikeE ps) n = 0) :
    Calls Tryd.prog 34 #[.int .i64 k, .int .i64 t, .slice a n c, .int .i64 x] w fun e w' => PieceRes x (plen' ps 0) 0 (mixL ((List.range k).map D) (wts (places ps k) (scales (places ps k)) x) (plen' ps 0) k) e w' ∧ Below w.heap.size w w' :=
  (Again_okN k t x a n c ps D h1 h2 h3 h4 hn hnc w hp hD hz).mono fun _ _ ⟨h, r⟩ => ⟨h.res, r⟩

set_option maxRecDepth 100000 in
set_option maxHeartbeats 4000000 in
theorem Rebuild_okN (fb k t x : Nat) (a : Option Addr) (n c : Nat) (ps : List (Int × Sl)) (D : Nat → List Nat) (h1 : 1 ≤ k) (h2 : k ≤ t) (h3 : t ≤ 255) (h4 : x < t) (hn : n ≤ 100000) (hnc : n ≤ c) (w : World) (hF : Fld w fb) (hH : Held fb w (.slice a n c) ps D)
    (hz : chkAll k t (pidx ps) (alikeE ps) n = 0) :
    Calls Tryd.prog 32 #[.pointer (some ⟨fb, 0, none⟩), .int .i64 k, .int .i64 t, .slice a n c, .int .i64 x] w fun e w' => PieceResN w.heap.size x (plen' ps 0) (mixL ((List.range k).map D) (wts (places ps k) (scales (places ps k)) x) (plen' ps 0) k) e w' ∧ Built w' fb ∧ Kept fb w w' := by
  have hnot : ∀ (x : Bool) (w : World), (Op.unary .not (.bool x)).run Tryd.prog w = .ok (.bool (!x)) w := fun _ _ => rfl
  have hfit := fit_of hz
  have hkn : k ≤ n := by have := hfit.few; omega
  have hnp := hH.len
  obtain ⟨b, o, rfl⟩ : ∃ b o, a = some ⟨b, o, none⟩ := by
    obtain ⟨a', c', e1, e3⟩ := hH.now.1
    obtain ⟨b, o, ha, _⟩ := e3 (by intro e; rw [e] at hnp; simp at hnp; omega)
    simp at e1
    exact ⟨b, o, e1.1.trans ha⟩
  have b1 : decide ((x : Int) < 0) = false := by simp
  have b2 : decide (t ≤ x) = false := by simp; omega
  have hc := checkAlike_any (k : Int) (t : Int) (some ⟨b, o, none⟩) n c ps
  rw [hz] at hc
  have HC := hid hc
  have hal := alike_fit hfit
  have HLENS := hid (fun i h => (hal i h).1)
  have hLb := (hal 0 (by omega)).2
  have HFIT := hid hfit
  have HN := hid hnp
  have HF := hid hF
  have HH := hid hH
  have hfb0 := hF.lt
  clear hF hH hz hc hnp hal hfit
  generalize hL : plen' ps 0 = L at *
  clear hL
  go_enter Tryd.func32, Tryd.ntmps32
  go_wp2_with fail
  refine (valid_yes k t (by omega) (by omega) (by omega) _).mono ?_
  rintro e w' ⟨rfl, rfl⟩
  have hb1 : Below w.heap.size w (w.alloc (Obj.cells #[.int .i64 0, .slice none 0 0] 44)) := (Below.refl _ _).alloc (Nat.le_refl _) _
  have HX := hid (heap_new w (Obj.cells #[.int .i64 0, .slice none 0 0] 44))
  go_wp2_with fail
  refine (HC.out _ (by omega) (HH.out.now.1.below hb1) hn).mono ?_
  rintro e w2 ⟨rfl, hb2⟩
  have hb12 : Below w.heap.size w w2 := hb1.trans (hb2.mono (by simp))
  have HB12 := hid hb12
  have hF2 : Fld w2 fb := HF.out.elim (fun h => .inl ((hb12.block _ hfb0).trans h)) (fun h => .inr ((hb12.block _ hfb0).trans h))
  have HX2 := hid ((hb2.block w.heap.size (by simp)).trans HX.out)
  clear hb1 hb2 hb12
  go_wp2_with fail
  refine (build_any fb _ hF2).mono ?_
  rintro e w3 ⟨rfl, hB3, hk3⟩
  have hK3 : Kept fb w w3 := (Kept.of_below HB12.out).trans hk3
  have HX3 := hid ((hk3.block w.heap.size (lt_of_heap HX2.out) (by omega)).trans HX2.out)
  have HK3 := hid hK3
  have HH3 := hid (HH.out.step hK3)
  have HB3 := hid hB3
  clear hK3 hk3 hF2 hB3
  have hps3 := HH3.out.now.1.take hkn
  have HPS3 := hid hps3
  have hkp : k = (ps.take k).length := by rw [List.length_take, ← HN.out, Nat.min_eq_left hkn]
  have HKP := hid hkp
  have hcc : k ≤ c := by omega
  clear hps3 hkp
  have hpl := places_length ps k
  have HPL := hid hpl
  have hnum : ∀ i, (h : i < (ps.take k).length) → (ps.take k)[i].1 = (((places ps k).getD i 0 : Nat) : Int) := fun i h => by
    rw [← HKP.out] at h
    have h5 := HFIT.out.lo i (by omega)
    rw [List.getElem_take, pidx_at, places_getD ps k i h]
    omega
  have HNUM := hid hnum
  have HLT := hid (places_lt (k := k) HFIT.out (by omega))
  have HND := hid (places_nodup (k := k) HFIT.out)
  clear hnum hpl
  go_wp2_with fail
  refine (newSource_n fb b o c k (ps.take k) (places ps k) HKP.out _ HB3.out HPS3.out (by omega) (by omega) (by rw [HPL.out, ← HKP.out]) HNUM.out HLT.out HND.out).mono ?_
  rintro e w4 ⟨pb, sb, hpb, hsb, rfl, hopb, hosb, hb4⟩
  have hkk4 : Kept fb w w4 := HK3.out.trans (Kept.of_below hb4)
  have hdat : ∀ i, (h : i < (ps.take k).length) → Bs w4 (.slice (ps.take k)[i].2.1 (ps.take k)[i].2.2.1 (ps.take k)[i].2.2.2) (((List.range k).map D).getD i []) ∧ (((List.range k).map D).getD i []).length = L := fun i h => by
    have h' := h
    rw [← HKP.out] at h'
    have hi2 : i < ps.length := by rw [← HN.out]; omega
    rw [rmap_getD _ _ _ h']
    simp only [List.getElem_take]
    exact ⟨(HH.out w4 hkk4).2 i hi2, by rw [HH.out.data i hi2]; exact HLENS.out i (by omega)⟩
  have HDAT := hid hdat
  have hpl : Bs w4 (.slice (some ⟨pb, 0, none⟩) k k) (places ps k) := by
    have h5 := hopb.bs HLT.out k
    rwa [HPL.out] at h5
  have hsl : Bs w4 (.slice (some ⟨sb, 0, none⟩) k k) (scales (places ps k)) := by
    have h5 := hosb.bs (scales_lt _) k
    rwa [scales_length, HPL.out] at h5
  have HX4 := hid ((hb4.block w.heap.size (lt_of_heap HX3.out)).trans HX3.out)
  have HB4 := hid (HB3.out.below hb4 HB3.out.lt)
  have HK4 := hid hkk4
  clear hopb hosb hdat hb4 hkk4
  go_wp2_with fail
  refine (piece_any fb b o c pb 0 k sb 0 k k L x (ps.take k) (places ps k) ((List.range k).map D) _ HB4.out ((HH.out w4 HK4.out).1.take hkn) (by omega) (by omega) HKP.out HPL.out.symm HDAT.out hpl hsl (by omega) (by omega)).mono ?_
  rintro e w6 ⟨oc, hoc, rfl, ho, hb6⟩
  have hs4 := HK4.out.size
  obtain ⟨d0, d1, f0, f1⟩ := piece_free HX4.out hb6 (lt_of_heap HX4.out)
  have hox : oc ≠ w.heap.size := by have := lt_of_heap HX4.out; omega
  have hbs := mixL_bs ho (fun i => getD_lt (wts_lt _ _ _) i)
  have HBS := hid (hbs.set_offR (b := w.heap.size) (show oc ≠ w.heap.size from hox) 0 (.int .i64 x))
  have HB2 := hid (HBS.out.set_offR (b := w.heap.size) (show oc ≠ w.heap.size from hox) 1 (.slice (some ⟨oc, 0, none⟩) L L))
  have HB6 := hid (HB4.out.below hb6 HB4.out.lt)
  have HK6 := hid (HK4.out.trans (Kept.of_below hb6))
  clear hbs hb6 hpl hsl
  go_wp2
  exact bodyPost_ret (v := .tuple #[.agg #[.int .i64 x, .slice (some ⟨oc, 0, none⟩) L L], .int .i64 0]) (by simp [results, Tryd.results32, go_sem, d0, d1]) rfl ⟨⟨_, by omega, rfl, HB2.out⟩, (HB6.out.setCell (by simp; omega) _).setCell (by simp; omega) _, (HK6.out.setNew (by simp) _).setNew (by simp) _⟩
theorem Rebuild_ok (fb k t x : Nat) (a : Option Addr) (n c : Nat) (ps : List (Int × Sl)) (D : Nat → List Nat) (h1 : 1 ≤ k) (h2 : k ≤ t) (h3 : t ≤ 255) (h4 : x < t) (hn : n ≤ 100000) (hnc : n ≤ c) (w : World) (hF : Fld w fb) (hH : Held fb w (.slice a n c) ps D)
    (hz : chkAll k t (pidx ps) (alikeE ps) n = 0) :
    Calls Tryd.prog 32 #[.pointer (some ⟨fb, 0, none⟩), .int .i64 k, .int .i64 t, .slice a n c, .int .i64 x] w fun e w' => PieceRes x (plen' ps 0) 0 (mixL ((List.range k).map D) (wts (places ps k) (scales (places ps k)) x) (plen' ps 0) k) e w' ∧ Built w' fb ∧ Kept fb w w' :=
  (Rebuild_okN fb k t x a n c ps D h1 h2 h3 h4 hn hnc w hF hH hz).mono fun _ _ ⟨h, r⟩ => ⟨h.res, r⟩

end Go.Proofs.YtahnihihfheegaaDoor
