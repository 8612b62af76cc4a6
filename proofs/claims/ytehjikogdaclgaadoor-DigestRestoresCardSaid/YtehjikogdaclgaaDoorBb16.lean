/-
  Assemble: the object of a manifest's pieces; what it answers. · DigestMemory: what its walk leans on. · Functions of the field that are polynomials of fewer than k coefficients: their zeros; the weights are such. · Different numbers below total: what a choice leaves (pure). · Any k pieces of an encoding determine the object and every piece.
-/
import Derived.Test.YtehjikogdaclgaaDoorBb14
import Derived.Test.YtehjikogdaclgaaDoorBb15
import Derived.Test.YtehjikogdaclgaaDoorBb11
import Derived.Test.YtehjikogdaclgaaDoorBb9
import Derived.Test.YtehjikogdaclgaaDoorBb10
import Derived.Test.YtehjikogdaclgaaDoorBb12
import Derived.Deep.DeepCutAuto
import Derived.Test.YtehjikogdaclgaaDoorBb3
import Derived.Test.YtehjikogdaclgaaDoorBb4
namespace Go.Proofs.YtehjikogdaclgaaDoor
open Go Go.RowKit
set_option linter.unusedVariables false

theorem dTo_all {idx ce : Nat → Int} : ∀ {n : Nat}, dTo idx ce n = 0 → ∀ i, i < n → ce i = 0 ∧ occ idx i (idx i) = false
  | 0, _, i, hi => absurd hi (Nat.not_lt_zero i)
  | n + 1, h, i, hi => by
    unfold dTo at h
    by_cases e : dTo idx ce n = 0
    · rw [if_pos e] at h
      by_cases e2 : i = n
      · subst e2
        unfold dStep at h
        by_cases e3 : ce i = 0
        · rw [if_pos e3] at h
          cases ho : occ idx i (idx i) with
          | true => rw [ho] at h; exact absurd h (by decide)
          | false => exact ⟨e3, rfl⟩
        · rw [if_neg e3] at h
          exact absurd h e3
      · exact dTo_all e i (by omega)
    · rw [if_neg e] at h
      exact absurd h e
theorem dAll_zero {k : Int} {idx ce : Nat → Int} {n : Nat} (h : dAll k idx ce n = 0) : dTo idx ce n = 0 ∧ k ≤ (n : Int) := by
  unfold dAll at h
  by_cases e : dTo idx ce n = 0
  · rw [if_pos e] at h
    by_cases e2 : (n : Int) < k
    · rw [if_pos e2] at h; exact absurd h (by decide)
    · exact ⟨e, by omega⟩
  · rw [if_neg e] at h; exact absurd h e
theorem chk_of {k t : Int} {idx ce : Nat → Int} {n : Nat} (h : ∀ i, i < n → 0 ≤ idx i ∧ idx i < t ∧ occ idx i (idx i) = false ∧ ce i = 0) (hk : k ≤ (n : Int)) : chkAll k t idx ce n = 0 := by
  have h1 : ∀ m, m ≤ n → chkTo t idx ce m = 0 := fun m => by
    induction m with
    | zero => intro _; rfl
    | succ m ih =>
      intro hm
      obtain ⟨a1, a2, a3, a4⟩ := h m (by omega)
      refine chkTo_next (ih (by omega)) ?_
      unfold stepE
      rw [if_neg (by omega), a3, if_neg (by decide), a4]
  unfold chkAll
  rw [if_pos (h1 n (Nat.le_refl _)), if_neg (by omega)]
/-- pieces that are right: what rs asks of them -/
theorem rs_right {k n t s : Int} {m : Nat} {D : List (List Nat)} {ps : List (Int × Sl)} {Dd : Nat → List Nat} {pn : Nat} {w : World} (hd : PDat w ps Dd) (hn : pn = ps.length) (h : dAll k (pidx ps) (fun i => cpE k n t s m D (pidx ps i) (Dd i)) pn = 0) :
    chkAll k t (pidx ps) (fun i => if ((plen' ps i : Nat) : Int) = (plen k.toNat s.toNat : Nat) then 0 else 10) pn = 0 ∧ k ≤ (pn : Int) ∧ ∀ i, i < pn → (Dd i).length = plen k.toNat s.toNat ∧ plen' ps i = plen k.toNat s.toNat := by
  obtain ⟨h1, h2⟩ := dAll_zero h
  have h3 : ∀ i, i < pn → (Dd i).length = plen k.toNat s.toNat ∧ plen' ps i = plen k.toNat s.toNat := fun i hi => by
    obtain ⟨_, _, _, _, e, _⟩ := cp_zero (dTo_all h1 i hi).1
    have e2 := (hd i (by omega)).1.len
    rw [plen_at] at e2
    exact ⟨e, by omega⟩
  refine ⟨chk_of (fun i hi => ?_) h2, h2, h3⟩
  obtain ⟨g1, g2⟩ := dTo_all h1 i hi
  obtain ⟨_, e1, e2, _, _, _⟩ := cp_zero g1
  exact ⟨e1, e2, g2, if_pos (by rw [(h3 i hi).2])⟩

/-- the load of a long array behind a guard -/
theorem wpQuiet_load_clsW {P : Program} {ops : Array Oper} {rest : List Oper} {o : Oper} {a : Act} {G : World → Prop} {Q : Act → Prop} (hw : Region.wanted o (yielded ops a.tmps) = true) (ty : TypeId) (x : Operand) (ho : o.op = .load ty x)
    (b off : Nat) (hx : a.eval x = .pointer (some ⟨b, off, none⟩)) (cs : List Value) (d : TypeDesc) (hc : ∀ p : Cls G, p.w.rangeAt b off cs)
    (hu : P.underlying ty = some d) (hd : d.isRow = true) (hi : (P.info? ty).map (·.size) = some cs.length)
    (h : ∀ C, C = cs.toArray → wpQuiet P ops (fun w' => ∃ p : Cls G, w' = p.w) Q rest (a.put o.dst (.agg C))) : wpQuiet P ops (fun w' => ∃ p : Cls G, w' = p.w) Q (o :: rest) a :=
  wpQuiet_step fun K hK => by
    rw [if_pos hw]
    refine ⟨.agg cs.toArray, ?_, hK _ (h _ rfl)⟩
    rintro w' ⟨p, rfl⟩
    have hr := run_loadVar_mid (P := P) p.w b off ty cs d (hc p) hu hd hi
    unfold Oper.quietAt execOp
    simp only [ho, hx, Instr.loadAt, Instr.sureAddr, Sem.run_bind, Sem.run_pure, Result.andThen_ok, hr]
    exact ⟨rfl, rfl⟩
theorem wpList_load_wantA {P : Program} {ops : Array Oper} {rest : List Oper} {op : Oper} {a : Act} {w : World} {Q : Exit → Act → World → Prop} (hw : Region.wanted op (yielded ops a.tmps) = true) (ty : TypeId) (x : Operand) (ho : op.op = .load ty x)
    (b o : Nat) (hx : a.eval x = .pointer (some ⟨b, o, none⟩)) (cs : List Value) (d : TypeDesc) (hc : w.rangeAt b o cs)
    (hu : P.underlying ty = some d) (hd : d.isRow = true) (hi : (P.info? ty).map (·.size) = some cs.length)
    (h : wpList P ops Q rest (a.put op.dst (.agg cs.toArray)) w) : wpList P ops Q (op :: rest) a w :=
  BigFrame.wpList_want hw fun _ hK => wp_load_mid ty x ho b o hx cs d hc hu hd hi (hK _ _ h)
theorem man_range4A {w : World} {b : Nat} {k n t s : Int} {od : List Nat} {v : Value} (h : ManAt w b k n t s od v) : w.rangeAt b 4 (u8s od) := fun j u hj => by
  have h1 := range_of_heapI h (4 + j) u (by
    unfold mcells
    rw [List.append_assoc, List.getElem?_append_right (by simp), List.getElem?_append_left (by simp; exact (List.getElem?_eq_some_iff.1 hj).1)]
    simpa using hj)
  rwa [Nat.zero_add] at h1
/-- the object that pieces determine -/
def objL (k s : Int) (ps : List (Int × Sl)) (Dd : Nat → List Nat) : List Nat := joinL ((List.range k.toNat).map Dd) (places ps k.toNat) (plen k.toNat s.toNat) k.toNat s.toNat
/-- the error of Assemble -/
def asmE (k n t s : Int) (m : Nat) (od : List Nat) (D : List (List Nat)) (ps : List (Int × Sl)) (Dd : Nat → List Nat) (pn : Nat) : Int :=
  if manB k n t s m = true then
    (if dAll k (pidx ps) (fun i => cpE k n t s m D (pidx ps i) (Dd i)) pn = 0 then (if dig shaRound shaStart (objL k s ps Dd) = od then 0 else 20) else dAll k (pidx ps) (fun i => cpE k n t s m D (pidx ps i) (Dd i)) pn)
  else 2
/-- .. and its object -/
def asmL (k n t s : Int) (m : Nat) (od : List Nat) (D : List (List Nat)) (ps : List (Int × Sl)) (Dd : Nat → List Nat) (pn : Nat) : List Nat :=
  if asmE k n t s m od D ps Dd pn = 0 then objL k s ps Dd else []
theorem objL_length (k s : Int) (ps : List (Int × Sl)) (Dd : Nat → List Nat) : (objL k s ps Dd).length = s.toNat := by simp [objL, joinL]
theorem objL_lt {k s : Int} {ps : List (Int × Sl)} {Dd : Nat → List Nat} (h : ∀ i j, i < k.toNat → (Dd i).getD j 0 < 256) : ∀ y ∈ objL k s ps Dd, y < 256 := fun y hy => by
  obtain ⟨z, _, rfl⟩ := List.mem_map.1 hy
  exact joinF_lt (fun i j => by
    by_cases hi : i < k.toNat
    · rw [rmap_getD _ _ _ hi]
      exact h i j hi
    · rw [List.getD_eq_getElem?_getD (l := List.map _ _), List.getElem?_eq_none (by simp; omega)]
      show (0 : Nat) < 256
      omega)
/-- bytes and an error: the bytes lie where they may be read -/
def AsmRes (x : Int) (L : List Nat) (e : Ending) (w' : World) : Prop := ∃ ra rc, e = .returned (.tuple #[.slice ra L.length rc, .int .i64 x]) ∧ Bs w' (.slice ra L.length rc) L ∧ L.length ≤ rc ∧ (ra = none → rc = 0)
theorem asmRes_none (x : Int) (w : World) : AsmRes x [] (.returned (.tuple #[.slice none 0 0, .int .i64 x])) w := ⟨_, _, rfl, bs_nil _, Nat.le_refl _, fun _ => rfl⟩
theorem asmRes_some {O : List Nat} {ob sz : Nat} {w' : World} (hl : O.length = sz) (h : Bs w' (.slice (some ⟨ob, 0, none⟩) sz sz) O) : AsmRes 0 O (.returned (.tuple #[.slice (some ⟨ob, 0, none⟩) sz sz, .int .i64 0])) w' := by
  subst hl
  exact ⟨_, _, rfl, h, Nat.le_refl _, fun h => by cases h⟩
theorem fld_belowA {w w' : World} {fb : Nat} (h : Fld w fb) (k : Below w.heap.size w w') : Fld w' fb := h.elim (fun h => .inl ((k.block _ (lt_of_heap h)).trans h)) (fun h => .inr ((k.block _ (lt_of_heap h)).trans h))

set_option maxRecDepth 100000 in
set_option maxHeartbeats 4000000 in
theorem asm_any (fb : Nat) (w : World) (V : Vars w shaRound shaStart) (k n t s : Int) (od : List Nat) (a : Option Addr) (m c : Nat) (D : List (List Nat)) (ho : od.length = 32) (hD : Dgs w a m c D) (pa : Option Addr) (pn pc : Nat) (ps : List (Int × Sl)) (Dd : Nat → List Nat) (hd : PDat w ps Dd) (hpn : pn ≤ 100000) (hpc : pn ≤ pc) (hF : Fld w fb) (hlo : 3 ≤ fb) (hH : Held fb w (.slice pa pn pc) ps Dd) :
    Calls Tryd.prog 11 #[.pointer (some ⟨fb, 0, none⟩), .agg (mcells k n t s od (.slice a m c)).toArray, .slice pa pn pc] w fun e w' => AsmRes (asmE k n t s m od D ps Dd pn) (asmL k n t s m od D ps Dd pn) e w' ∧ Fld w' fb ∧ Kept fb w w' := by
  obtain ⟨w0, hw0⟩ : ∃ y, y = w.alloc (.cells (mcells k n t s od (.slice a m c)).toArray 27) := ⟨_, rfl⟩
  have HB0 := hid (show Below w.heap.size w w0 from by rw [hw0]; exact (Below.refl _ _).alloc (Nat.le_refl _) _)
  have HM := hid (show ManAt w0 w.heap.size k n t s od (.slice a m c) from by rw [hw0]; exact heap_new _ _)
  have HIF := hid (show (Tryd.prog.info? 27).map (·.size) = some (mcells k n t s od (.slice a m c)).length from by rw [mcells_length _ _ _ _ _ _ ho]; kernel_rfl)
  have HCM := hid (fun wx => CheckManifest_any k n t s od a m c ho wx)
  have HCK := hid (fun (wx : World) (b : Below w.heap.size w wx) => ckp_any wx (V.below b) k n t s od a m c D ho (hD.below b) pa pn pc ps Dd (hH.now.1.below b) (hd.below b) hpn)
  have HRA := hid (range_of_heapI HM.out)
  have hfl := hF.lt
  have HO := hid ho
  have HV := hid V
  have HPD := hid hd
  have HFF := hid hF
  have HH := hid hH
  have HN := hid hH.len
  clear ho V hD hd hF hH
  cases hv : manB k n t s m with
  | false => as_aux_lemma =>
    have HR1 := hid (show asmE k n t s m od D ps Dd pn = 2 from by unfold asmE; rw [hv]; rfl)
    have HR2 := hid (show asmL k n t s m od D ps Dd pn = [] from by unfold asmL; rw [HR1.out]; rfl)
    have hme : manE k n t s m = 2 := by unfold manE; rw [hv]; rfl
    rw [hme] at HCM
    clear hme hv HCK
    go_enter Tryd.func11, Tryd.ntmps11
    go_upto_region 1 with fail
    change Code.wp _ _ _ _ (w.alloc (.cells (mcells k n t s od (.slice a m c)).toArray 27))
    rw [← hw0]
    clear hw0
    go_wp2_with (refine wpList_load_mid (by rfl) 27 (.tmp 4) (by rfl) w.heap.size 0 (by rfl) (mcells k n t s od (.slice a m c)) _ HRA.out Tryd.underlying27 rfl HIF.out ?_)
    refine (HCM.out w0).mono ?_
    rintro e w3 ⟨rfl, hb3⟩
    have HB3 := hid (HB0.out.trans (hb3.mono HB0.out.size))
    clear hb3
    go_wp2
    go_ret2
    exact ⟨by rw [HR1.out, HR2.out]; exact asmRes_none _ _, fld_belowA HFF.out HB3.out, Kept.of_below HB3.out⟩
  | true =>
    have hme : manE k n t s m = 0 := by unfold manE; rw [hv]; rfl
    rw [hme] at HCM
    have hnum : 1 ≤ k ∧ k ≤ n ∧ n ≤ t ∧ t ≤ 255 ∧ 0 ≤ s ∧ s ≤ 8192 := by
      have hok := hv
      unfold manB vnB vcB at hok
      simp only [Bool.and_eq_true, decide_eq_true_eq] at hok
      omega
    have HU := hid (show asmE k n t s m od D ps Dd pn = (if dAll k (pidx ps) (fun i => cpE k n t s m D (pidx ps i) (Dd i)) pn = 0 then (if dig shaRound shaStart (objL k s ps Dd) = od then 0 else 20) else dAll k (pidx ps) (fun i => cpE k n t s m D (pidx ps i) (Dd i)) pn) from by unfold asmE; rw [if_pos hv])
    clear hme hv
    by_cases hda : dAll k (pidx ps) (fun i => cpE k n t s m D (pidx ps i) (Dd i)) pn = 0
    case neg => as_aux_lemma =>
      have HR1 := hid (show asmE k n t s m od D ps Dd pn = dAll k (pidx ps) (fun i => cpE k n t s m D (pidx ps i) (Dd i)) pn from by rw [HU.out, if_neg hda])
      have HR2 := hid (show asmL k n t s m od D ps Dd pn = [] from by unfold asmL; rw [HR1.out, if_neg hda])
      have b1 : (dAll k (pidx ps) (fun i => cpE k n t s m D (pidx ps i) (Dd i)) pn != 0) = true := by simpa using hda
      clear HU hnum hda
      generalize dAll k (pidx ps) (fun i => cpE k n t s m D (pidx ps i) (Dd i)) pn = E at HR1 b1 HCK
      go_enter Tryd.func11, Tryd.ntmps11
      go_upto_region 1 with fail
      change Code.wp _ _ _ _ (w.alloc (.cells (mcells k n t s od (.slice a m c)).toArray 27))
      rw [← hw0]
      clear hw0
      go_wp2_with (refine wpList_load_mid (by rfl) 27 (.tmp 4) (by rfl) w.heap.size 0 (by rfl) (mcells k n t s od (.slice a m c)) _ HRA.out Tryd.underlying27 rfl HIF.out ?_)
      refine (HCM.out w0).mono ?_
      rintro e w3 ⟨rfl, hb3⟩
      have HB3 := hid (HB0.out.trans (hb3.mono HB0.out.size))
      have HR3 := hid (range_below HRA.out hb3)
      clear hb3
      go_wp2_with (refine wpList_load_mid (by rfl) 27 (.tmp 4) (by rfl) w.heap.size 0 (by rfl) (mcells k n t s od (.slice a m c)) _ HR3.out Tryd.underlying27 rfl HIF.out ?_)
      refine (HCK.out w3 HB3.out).mono ?_
      rintro e w4 ⟨rfl, hb4⟩
      have HB4 := hid (HB3.out.trans (hb4.mono HB3.out.size))
      clear hb4
      go_wp2
      go_ret2
      exact ⟨by rw [HR1.out, HR2.out]; exact asmRes_none _ _, fld_belowA HFF.out HB4.out, Kept.of_below HB4.out⟩
    case pos =>
      obtain ⟨hz, hkp, hlen⟩ := rs_right (t := t) HPD.out HN.out hda
      rw [hda] at HCK
      have HDC := hid (fun (wx : World) (b : Below w.heap.size w wx) => Decode_ok fb k.toNat t.toNat s.toNat pa pn pc ps Dd (by omega) (by omega) (by omega) (by omega) hpn hpc wx (fld_belowA HFF.out b) (HH.out.step (Kept.of_below b)) (by rw [show ((k.toNat : Nat) : Int) = k from by omega, show ((t.toNat : Nat) : Int) = t from by omega]; exact hz))
      rw [show ((k.toNat : Nat) : Int) = k from by omega, show ((t.toNat : Nat) : Int) = t from by omega, show ((s.toNat : Nat) : Int) = s from by omega] at HDC
      have hlt : ∀ y ∈ objL k s ps Dd, y < 256 := objL_lt fun i j hi => (HH.out.now.2 i (by have := HN.out; omega)).lt j
      have HLT := hid hlt
      have HUE := hid (show asmE k n t s m od D ps Dd pn = (if dig shaRound shaStart (objL k s ps Dd) = od then 0 else 20) from by rw [HU.out, if_pos hda])
      have HOL := hid (objL_length k s ps Dd)
      obtain ⟨O, hO⟩ : ∃ O, O = objL k s ps Dd := ⟨_, rfl⟩
      have HOO := hid hO
      have HDC2 := hid (fun (wx : World) (b : Below w.heap.size w wx) => (HDC.out wx b).mono (fun e w' (h : ∃ ob, wx.heap.size ≤ ob ∧ e = .returned (.tuple #[.slice (some ⟨ob, 0, none⟩) s.toNat s.toNat, .int .i64 0]) ∧ Own w' ob (objL k s ps Dd) ∧ Built w' fb ∧ Kept fb wx w') => (show ∃ ob, wx.heap.size ≤ ob ∧ e = .returned (.tuple #[.slice (some ⟨ob, 0, none⟩) s.toNat s.toNat, .int .i64 0]) ∧ Bs w' (.slice (some ⟨ob, 0, none⟩) s.toNat s.toNat) (objL k s ps Dd) ∧ Built w' fb ∧ Kept fb wx w' from by
        obtain ⟨ob, h1, h2, h3, h4, h5⟩ := h
        have h6 := h3.bs HLT.out s.toNat
        rw [HOL.out] at h6
        exact ⟨ob, h1, h2, h6, h4, h5⟩)))
      have hob : s.toNat ≤ 8192 := by omega
      rw [← hO] at HUE HLT HOL HDC2
      have hY32 : (dig shaRound shaStart O).length = 32 := dig_length _ _ _
      obtain ⟨Y, hY⟩ : ∃ Y, Y = dig shaRound shaStart O := ⟨_, rfl⟩
      have HSH := hid (fun (wx : World) (V : Vars wx shaRound shaStart) (ob : Nat) (h : Bs wx (.slice (some ⟨ob, 0, none⟩) s.toNat s.toNat) O) => SHA256_any (some ⟨ob, 0, none⟩) s.toNat s.toNat shaRound shaStart O wx V h (Nat.le_refl _) (by omega))
      rw [← hY] at HSH hY32 HUE
      have HEQ := hid (fun wx => eql_any Y od hY32 HO.out wx)
      have HASL := hid (show asmL k n t s m od D ps Dd pn = if asmE k n t s m od D ps Dd pn = 0 then O else [] from by unfold asmL; rw [hO])
      have HIFZ := hid (show (Tryd.prog.info? 24).map (·.size) = some (u8s od).length from by simp only [u8s, List.length_map, HO.out]; kernel_rfl)
      have hq0 : ∀ (q : Bool), q = decide (Y = od) → asmE k n t s m od D ps Dd pn = if q then 0 else 20 := by
        rintro q rfl
        rw [HUE.out]
        by_cases h : Y = od
        · rw [if_pos h, decide_eq_true h]; rfl
        · rw [if_neg h, decide_eq_false h]; rfl
      generalize hq : decide (Y = od) = q at *
      have HQ := hid (hq0 q rfl)
      clear hq0 hq hY hY32 hO HUE HDC hz hkp hlen hda HU hlt
      cases q
      all_goals as_aux_lemma =>
        go_enter Tryd.func11, Tryd.ntmps11
        go_upto_region 1 with fail
        change Code.wp _ _ _ _ (w.alloc (.cells (mcells k n t s od (.slice a m c)).toArray 27))
        rw [← hw0]
        clear hw0
        go_wp2_with (refine wpList_load_mid (by rfl) 27 (.tmp 4) (by rfl) w.heap.size 0 (by rfl) (mcells k n t s od (.slice a m c)) _ HRA.out Tryd.underlying27 rfl HIF.out ?_)
        refine (HCM.out w0).mono ?_
        rintro e w3 ⟨rfl, hb3⟩
        have HB3 := hid (HB0.out.trans (hb3.mono HB0.out.size))
        have HR3 := hid (range_below HRA.out hb3)
        have HM3 := hid ((hb3.block _ (lt_of_heap HM.out)).trans HM.out)
        clear hb3
        go_wp2_with (refine wpList_load_mid (by rfl) 27 (.tmp 4) (by rfl) w.heap.size 0 (by rfl) (mcells k n t s od (.slice a m c)) _ HR3.out Tryd.underlying27 rfl HIF.out ?_)
        refine (HCK.out w3 HB3.out).mono ?_
        rintro e w4 ⟨rfl, hb4⟩
        have HB4 := hid (HB3.out.trans (hb4.mono HB3.out.size))
        have HM4 := hid (show ManAt w4 w.heap.size k n t s od (.slice a m c) from (hb4.block _ (lt_of_heap HM3.out)).trans HM3.out)
        clear hb4
        obtain ⟨c0, -, c2, c3, -⟩ := HM4.out.c HO.out
        go_wp2_with fail
        refine (HDC2.out w4 HB4.out).mono ?_
        rintro e w5 ⟨ob, hob5, rfl, hbs5, hbu5, hk5⟩
        have HK5 := hid ((Kept.of_below (b := fb) HB4.out).trans hk5)
        have HBS5 := hid hbs5
        have HBU := hid (show Fld w5 fb from .inr hbu5)
        have HR5 := hid (man_range4A (show ManAt w5 w.heap.size k n t s od (.slice a m c) from (hk5.block _ (lt_of_heap HM4.out) (by omega)).trans HM4.out))
        have HV5 := hid (HV.out.kept HK5.out hlo)
        have hne : Nonempty (Cls fun w' => Below w5.heap.size w5 w') := ⟨⟨w5, Below.refl _ _⟩⟩
        have HSQ := hid (fun (p : Cls fun w' => Below w5.heap.size w5 w') => HSH.out p.w (HV5.out.below p.h) ob (HBS5.out.below p.h))
        have HRQ := hid (fun (p : Cls fun w' => Below w5.heap.size w5 w') => range_below HR5.out p.h)
        have e1 := fun wx => HEQ.out wx
        clear hk5 hbs5 hbu5 c0 c2 c3
        go_upto_region 10 with fail
        refine wp_region_class_lit (G := fun w' => Below w5.heap.size w5 w') (by kernel_rfl) (by kernel_rfl) (bel_drewN (Below.refl _ _) 1) ?_
        iterate 6 (go_big_quiet_step ((go_at_call 18; exact Calls.cls (HSQ.out _))))
        refine wpQuiet_load_clsW (by rfl) 24 (.tmp 42) (by rfl) w.heap.size 4 (by rfl) (u8s od) _ HRQ.out Tryd.underlying24 rfl HIFZ.out ?_
        rintro _ rfl
        try simp only [Act.put, List.setIfInBounds_toArray, List.set_cons_zero, List.set_cons_succ]
        repeat (go_big_quiet_step ((go_at_call 18; exact Calls.cls (HSQ.out _))))
        refine wpQuiet_nil ?_
        rintro _ ⟨⟨wp, hwp⟩, rfl⟩
        have HBP := hid hwp
        have HFP := hid (fld_belowA HBU.out hwp)
        have HKP := hid (HK5.out.trans (Kept.of_below hwp))
        have HBSP := hid (HBS5.out.below hwp)
        clear hwp e1 HSQ HRQ hne
        go_wp2
        go_ret2
        refine ⟨?_, HFP.out, HKP.out⟩
        rw [HASL.out, HQ.out]
        first
          | exact asmRes_none _ _
          | exact asmRes_some HOL.out HBSP.out
end Go.Proofs.YtehjikogdaclgaaDoor

namespace Go.Proofs.YtehjikogdaclgaaDoor
open Go Go.RowKit
set_option linter.unusedVariables false
set_option linter.unusedSimpArgs false

theorem make_post (fb k n t m c : Nat) (a : Option Addr) (l : List Nat) (w : World) (hF : Fld w fb) (V : Vars w shaRound shaStart) (hd : Bs w (.slice a m c) l) (hoff : Off fb (.slice a m c)) (hmc : m ≤ c) (h1 : 1 ≤ k) (h2 : k ≤ n) (h3 : n ≤ t) (h4 : t ≤ 255) (h5 : m ≤ 8192) (hfb : 3 ≤ fb) :
    Calls Tryd.prog 20 #[.pointer (some ⟨fb, 0, none⟩), .int .i64 k, .int .i64 n, .int .i64 t, .slice a m c] w fun e w' => ∃ M pv ev, e = .returned (.tuple #[.agg M, pv, ev]) ∧ MkPost fb k n t m l w w' M pv ev ∧ Kept fb w w' ∧ (Tryd.prog.info? 27).map (·.size) = some M.size ∧ mz.size = M.size ∧ M.all (·.oneCell') = true := by
  refine (Make_any fb k n t m c a shaRound shaStart l w hF V hd hoff hmc h1 h2 h3 h4 h5 hfb).mono ?_
  rintro e w' ⟨rb, mb, g, gd, bf, NN, rfl, RR⟩
  refine ⟨_, _, _, rfl, ⟨rb, mb, g, gd, bf, NN, rfl, rfl, rfl, RR⟩, RR.kept, ?_, ?_, mcells_one _ _ _ _ _ _ _ _⟩
  · rw [List.size_toArray, mcells_length _ _ _ _ _ _ (dig_length _ _ _)]; kernel_rfl
  · rw [mz_sizeO, List.size_toArray, mcells_length _ _ _ _ _ _ (dig_length _ _ _)]
theorem dgAt_range {w : World} {gd t k L : Nat} {l : List Nat} (h : ∀ j, j < t → w.rangeAt gd (j * 32) (u8s (pdg shaRound shaStart l k L j))) : DgAt w (.slice (some ⟨gd, 0, none⟩) t t) ((List.range t).map fun j => pdg shaRound shaStart l k L j) := by
  refine ⟨some ⟨gd, 0, none⟩, t, by simp, fun d hd => ?_, fun _ => ⟨gd, 0, rfl, fun j hj => ?_⟩⟩
  · obtain ⟨j, _, rfl⟩ := List.mem_map.1 hd
    exact ⟨dig_length _ _ _, digL_lt ()⟩
  · have hjt : j < t := by simpa using hj
    have e : ((List.range t).map fun j => pdg shaRound shaStart l k L j).getD j [] = pdg shaRound shaStart l k L j := by
      rw [List.getD_eq_getElem?_getD]
      simp [hjt]
    rw [e, Nat.zero_add]
    exact h j hjt
theorem dgat_same {w w' : World} {gd n c : Nat} {D : List (List Nat)} (h : DgAt w (.slice (some ⟨gd, 0, none⟩) n c) D) (k : w'.heap[gd]? = w.heap[gd]?) : DgAt w' (.slice (some ⟨gd, 0, none⟩) n c) D := h.same k
theorem bs_getD {w : World} {v : Value} {l : List Nat} (h : Bs w v l) (i : Nat) : l.getD i 0 < 256 := h.lt i
theorem cp_size {w : World} {base n c : Nat} {a : Option Addr} {l : List Nat} (h : w.ownsRow base 5 1 (.slice a n c) n (u8s l)) (hn : 0 < n) : base < w.heap.size := by
  obtain ⟨g, h1, h2, h3, _⟩ := buf_of_owns h hn
  exact Nat.lt_of_le_of_lt h2 h3.lt
theorem run_zeroM (w : World) : (Instr.build 24 #[]).run Tryd.prog w = .ok (.agg (u8s (List.replicate 32 0)).toArray) w := by kernel_rfl
/-- a zero digest, as an opaque value -/
theorem wpList_zeroM {w : World} {ops : Array Oper} {rest : List Oper} {o : Oper} {a : Act} {Q : Exit → Act → World → Prop} (hg : o.guard = none) (hop : o.op = .build 24 #[])
    (h : ∀ Z : List Value, Z.length = 32 → (∀ v ∈ Z, v.oneCell' = true) → wpList Tryd.prog ops Q rest (a.put o.dst (.agg Z.toArray)) w) : wpList Tryd.prog ops Q (o :: rest) a w := by
  refine wpList_plain hg fun K' hK' => ?_
  have h1 := run_zeroM w
  unfold Oper.wp
  simp [execOp, hop, h1, Result.andThen]
  exact hK' _ _ (h _ (by simp [u8s]) (u8s_oneH _))
/-- what the law writes over: the digests of the first manifest, its pieces' rows, its bytes -/
def Grb (bf : Nat → Nat) (t gd gb : Nat) (b : Nat) : Prop := b = gd ∨ (∃ i, i < t ∧ b = bf i) ∨ b = gb
/-- the rows of the pieces while they are written over -/
def Rows8 (w : World) (bf : Nat → Nat) (t L : Nat) : Prop := ∀ q, q < t → ∃ l : List Nat, l.length = L ∧ (∀ i, l.getD i 0 < 256) ∧ Own w (bf q) l
theorem grb_no {bf : Nat → Nat} {t gd gb b : Nat} (h1 : b ≠ gd) (h2 : ∀ i, i < t → b ≠ bf i) (h3 : b ≠ gb) : ¬ Grb bf t gd gb b := by
  rintro (h | ⟨i, hi, h⟩ | h)
  · exact h1 h
  · exact h2 i hi h
  · exact h3 h
theorem grb_out {bf : Nat → Nat} {t gd gb b s3 s4 s5 s6 : Nat} (h1 : s3 ≤ gd) (h2 : gd < s4) (h3 : ∀ z, z < t → s3 ≤ bf z ∧ bf z < s4) (h4 : s5 ≤ gb) (h5 : gb < s6) (h6 : s4 ≤ s5) (h7 : s3 ≤ s4) (hb : b < s3 ∨ s4 ≤ b ∧ b < s5 ∨ s6 ≤ b) : ¬ Grb bf t gd gb b :=
  grb_no (by omega) (fun z hz e => by have := h3 z hz; omega) (by omega)
theorem rows8_set {w : World} {bf : Nat → Nat} {t L q j : Nat} {u : Value} {l : List Nat} (h : Rows8 w bf t L) (hinj : ∀ a b, a < b → b < t → bf a ≠ bf b) (hq : q < t) (hl : l.length = L) (hlt : ∀ i, l.getD i 0 < 256) (ho : Own (w.setCell ⟨bf q, j, none⟩ u) (bf q) l) : Rows8 (w.setCell ⟨bf q, j, none⟩ u) bf t L := fun p hp => by
  by_cases e : p = q
  · subst e
    exact ⟨l, hl, hlt, ho⟩
  · obtain ⟨l', h1, h2, h3⟩ := h p hp
    refine ⟨l', h1, h2, h3.setCell (p := ⟨bf q, j, none⟩) ?_ _⟩
    show bf q ≠ bf p
    rcases Nat.lt_or_gt_of_ne e with h | h
    · exact fun e2 => hinj p q h hq e2.symm
    · exact hinj q p h hp
theorem fld_keptX {P : Nat → Prop} {w w' : World} {fb : Nat} (h : Fld w fb) (k : KeptX P w w') (hn : ¬ P fb) : Fld w' fb := h.elim (fun h => .inl (k.heap h hn)) (fun h => .inr (k.heap h hn))
theorem bs_keptX {P : Nat → Prop} {w w' : World} {a : Option Addr} {n c : Nat} {l : List Nat} (h : Bs w (.slice a n c) l) (k : KeptX P w w') (hn : ∀ ad, a = some ad → ¬ P ad.block) : Bs w' (.slice a n c) l := by
  obtain ⟨a', c', h1, h2, h3⟩ := h
  simp only [Value.slice.injEq] at h1
  obtain ⟨rfl, rfl, rfl⟩ := h1
  refine ⟨a, c, rfl, h2, fun hl => ?_⟩
  obtain ⟨b, o, ha, hc⟩ := h3 hl
  refine ⟨b, o, ha, fun i hi => ?_⟩
  exact (World.cell?_of_block (a := ⟨b, o + i, none⟩) (k.block b (World.block_lt_of_cell? _ _ (hc i hi)) (hn _ ha))).trans (hc i hi)
theorem pcs_keptX {w w' : World} {g B k L : Nat} {bf : Nat → Nat} {D : Nat → List Nat} (h : Pcs w g B k L bf D) (hk : ∀ b, B ≤ b → b < w.heap.size → w'.heap[b]? = w.heap[b]?) (hg : B ≤ g) : Pcs w' g B k L bf D :=
  ⟨(hk g hg h.own.lt).trans h.own, fun j hj => (hk _ (h.low j hj) (h.row j hj).lt).trans (h.row j hj), h.low, h.inj, h.notb⟩
theorem pcs_belowM {w w' : World} {g B k L : Nat} {bf : Nat → Nat} {D : Nat → List Nat} (h : Pcs w g B k L bf D) (b : Below w.heap.size w w') : Pcs w' g B k L bf D :=
  ⟨(b.block g h.own.lt).trans h.own, fun j hj => (b.block _ (h.row j hj).lt).trans (h.row j hj), h.low, h.inj, h.notb⟩
/-- rows of bytes and lists of pieces are no field -/
theorem pcs_keptF {w w' : World} {fb g B k L : Nat} {bf : Nat → Nat} {D : Nat → List Nat} (h : Pcs w g B k L bf D) (hk : Kept fb w w') (hF : Fld w fb) : Pcs w' g B k L bf D := by
  have hg : g ≠ fb := by
    rintro rfl
    rcases hF with h2 | h2 <;> (have h3 := h.own.symm.trans h2; simp at h3)
  have hb : ∀ j, j < k → bf j ≠ fb := fun j hj e => by
    have h1 := h.row j hj
    rw [e] at h1
    rcases hF with h2 | h2 <;> (have h3 := h1.symm.trans h2; simp at h3)
  exact ⟨(hk.block g h.own.lt hg).trans h.own, fun j hj => (hk.block _ (h.row j hj).lt (hb j hj)).trans (h.row j hj), h.low, h.inj, h.notb⟩
theorem cpb_off {w : World} {g c m q j : Nat} {a : Option Addr} {u : Value} (h : CpB w g c m a) (hne : g ≠ q) : CpB (w.setCell ⟨q, j, none⟩ u) g c m a :=
  h.same (Below.heap_setCell w ⟨q, j, none⟩ u g hne)
theorem pcs_ps {w : World} {g B t k L : Nat} {bf : Nat → Nat} {ld : List Nat} (h : Pcs w g B t L bf (encP ld k L)) (hl : ∀ i, ld.getD i 0 < 256) : Ps w (.slice (some ⟨g, 0, none⟩) t t) (mkps bf L t t) ∧ ∀ i, (hi : i < (mkps bf L t t).length) → Bs w (.slice (mkps bf L t t)[i].2.1 (mkps bf L t t)[i].2.2.1 (mkps bf L t t)[i].2.2.2) (encP ld k L i) := by
  refine ⟨h.own.ps t t (by rw [mkps_length]), fun i hi => ?_⟩
  have hit : i < t := by rw [mkps_length] at hi; exact hi
  rw [mkps_get _ _ _ _ _ hi hit]
  have h5 := (h.row i hit).bs (encM_lt ld hl k L i) L
  rwa [encM_length] at h5
theorem pcs_same {w : World} {gA gB BA BB t k L : Nat} {bfA bfB : Nat → Nat} {ld : List Nat} (hA : Pcs w gA BA t L bfA (encP ld k L)) (hB : Pcs w gB BB t L bfB (encP ld k L)) (hl : ∀ i, ld.getD i 0 < 256) (ht : t ≤ 1000000) :
    Calls Tryd.prog 23 #[.slice (some ⟨gA, 0, none⟩) t t, .slice (some ⟨gB, 0, none⟩) t t] w fun e w' => e = .returned (.bool true) ∧ Below w.heap.size w w' := by
  obtain ⟨a1, a2⟩ := pcs_ps hA hl
  obtain ⟨b1, b2⟩ := pcs_ps hB hl
  exact same_yes _ _ t t t _ _ (encP ld k L) w a1 b1 ht (fun i h h' => by rw [mkps_get _ _ _ _ _ h (by rw [mkps_length] at h; exact h), mkps_get _ _ _ _ _ h' (by rw [mkps_length] at h'; exact h')]) a2 b2
theorem mem_after {W w3 w4 w5 w6 w7 w10 : World} {P : Nat → Prop} {fb mb2 gd2 g2 n c NB ca L t : Nat} {cs : Array Value} {k nn tt s : Int} {OD : List Nat} {DG : List (List Nat)} {aa : Option Addr} {EL : List Nat} {bf2 : Nat → Nat} {D : Nat → List Nat}
    (hk : KeptX P w7 w10) (hg : ∀ b, (b < w3.heap.size ∨ w4.heap.size ≤ b ∧ b < w5.heap.size ∨ w6.heap.size ≤ b) → ¬ P b) (h57 : Below w5.heap.size w5 w7) (hW5 : Below W.heap.size W w5) (hW3 : W.heap.size ≤ w3.heap.size)
    (hc : w5.heap[W.heap.size]? = some (.cells cs 31 (0, 0))) (hl3 : W.heap.size < w3.heap.size) (hF : Fld w5 fb) (hfb : fb < w3.heap.size)
    (hm : ManAt w5 mb2 k nn tt s OD (.slice (some ⟨gd2, 0, none⟩) n c)) (r1 : w4.heap.size ≤ mb2) (s1 : mb2 < w5.heap.size) (hd : DgAt w5 (.slice (some ⟨gd2, 0, none⟩) n c) DG) (r2 : w4.heap.size ≤ gd2) (s2 : gd2 < w5.heap.size)
    (ha : Bs w7 (.slice aa NB ca) EL) (haa : ∀ ad, aa = some ad → w6.heap.size ≤ ad.block) (hp : Pcs w5 g2 w4.heap.size t L bf2 D) (r3 : w4.heap.size ≤ g2) :
    Below W.heap.size W w10 ∧ w10.heap[W.heap.size]? = some (.cells cs 31 (0, 0)) ∧ Fld w10 fb ∧ ManAt w10 mb2 k nn tt s OD (.slice (some ⟨gd2, 0, none⟩) n c) ∧ DgAt w10 (.slice (some ⟨gd2, 0, none⟩) n c) DG ∧ Bs w10 (.slice aa NB ca) EL ∧ Pcs w10 g2 w4.heap.size t L bf2 D := by
  have hz := h57.size
  have hW5s := hW5.size
  refine ⟨hk.below (hW5.trans (h57.mono hW5s)) (fun b hb => hg b (.inl (Nat.lt_of_lt_of_le hb hW3))), hk.heap ((h57.block _ (lt_of_heap hc)).trans hc) (hg _ (.inl hl3)), fld_keptX (fld_belowA hF h57) hk (hg _ (.inl hfb)), ?_, ?_, ?_, ?_⟩
  · exact hk.heap ((h57.block mb2 s1).trans hm) (hg _ (.inr (.inl ⟨r1, s1⟩)))
  · exact dgat_same hd ((hk.block gd2 (Nat.lt_of_lt_of_le s2 hz) (hg _ (.inr (.inl ⟨r2, s2⟩)))).trans (h57.block gd2 s2))
  · exact bs_keptX ha hk (fun ad e => hg _ (.inr (.inr (haa ad e))))
  · exact pcs_keptX hp (fun b h1 h2 => (hk.block b (Nat.lt_of_lt_of_le h2 hz) (hg _ (.inr (.inl ⟨h1, h2⟩)))).trans (h57.block b h2)) r3
theorem encM_ltI {l : List Nat} (h : ∀ y ∈ l, y < 256) (k L i : Nat) : ∀ n ∈ encP l k L i, n < 256 := encM_lt l (fun i => by
  rw [List.getD_eq_getElem?_getD]
  by_cases hi : i < l.length
  · rw [List.getElem?_eq_getElem hi]; exact h _ (List.getElem_mem _)
  · rw [List.getElem?_eq_none (by omega)]; decide) k L i

end Go.Proofs.YtehjikogdaclgaaDoor

namespace Go.Proofs.YtehjikogdaclgaaDoor.Gf
set_option linter.unusedVariables false

/-- f is, on the field, a polynomial of fewer than k + 1 coefficients (Horner) -/
def P : Nat → (Nat → Nat) → Prop
  | 0, f => ∀ x, x < 256 → f x = 0
  | k + 1, f => ∃ c g, c < 256 ∧ P k g ∧ ∀ x, x < 256 → f x = c ^^^ tm x (g x)
theorem P.lt : ∀ {k : Nat} {f : Nat → Nat}, P k f → ∀ x, x < 256 → f x < 256
  | 0, f, h, x, hx => by rw [h x hx]; omega
  | k + 1, f, ⟨c, g, hc, hg, h⟩, x, hx => by rw [h x hx]; exact xor_lt hc (tm_lt _ _ hx)
theorem P.congr {k : Nat} {f g : Nat → Nat} (h : P k f) (e : ∀ x, x < 256 → g x = f x) : P k g := by
  cases k with
  | zero => exact fun x hx => (e x hx).trans (h x hx)
  | succ k =>
    obtain ⟨c, g', hc, hg, h⟩ := h
    exact ⟨c, g', hc, hg, fun x hx => (e x hx).trans (h x hx)⟩
theorem P.zero : ∀ k, P k (fun _ => 0)
  | 0 => fun _ _ => rfl
  | k + 1 => ⟨0, _, by omega, P.zero k, fun x hx => by show 0 = 0 ^^^ tm x 0; rw [tm_zero_right]; rfl⟩
theorem P.up : ∀ {k : Nat} {f : Nat → Nat}, P k f → P (k + 1) f
  | 0, f, h => (P.zero 1).congr h
  | k + 1, f, ⟨c, g, hc, hg, h⟩ => ⟨c, g, hc, hg.up, h⟩
theorem P.xor : ∀ {k : Nat} {f g : Nat → Nat}, P k f → P k g → P k (fun x => f x ^^^ g x)
  | 0, f, g, h, h' => fun x hx => by show f x ^^^ g x = 0; rw [h x hx, h' x hx]; rfl
  | k + 1, f, g, ⟨c, a, hc, ha, h⟩, ⟨c', a', hc', ha', h'⟩ => ⟨c ^^^ c', _, xor_lt hc hc', ha.xor ha', fun x hx => by
      show f x ^^^ g x = _
      rw [h x hx, h' x hx, tm_xor_right x _ _ hx (ha.lt x hx) (ha'.lt x hx), xor_swap4]⟩
theorem tm_left_comm (a b c : Nat) (ha : a < 256) (hb : b < 256) (hc : c < 256) : tm a (tm b c) = tm b (tm a c) := by
  rw [← tm_assoc a b c ha hb hc, tm_comm a b ha hb, tm_assoc b a c hb ha hc]
theorem P.mul : ∀ {k : Nat} {f : Nat → Nat} (s : Nat), s < 256 → P k f → P k (fun x => tm s (f x))
  | 0, f, s, hs, h => fun x hx => by show tm s (f x) = 0; rw [h x hx, tm_zero_right]
  | k + 1, f, s, hs, ⟨c, g, hc, hg, h⟩ => ⟨tm s c, _, tm_lt _ _ hs, hg.mul s hs, fun x hx => by
      show tm s (f x) = tm s c ^^^ tm x (tm s (g x))
      rw [h x hx, tm_xor_right s _ _ hs hc (tm_lt _ _ hx), tm_left_comm s x _ hs hx (hg.lt x hx)]⟩
theorem P.lin {k : Nat} {f : Nat → Nat} (r : Nat) (hr : r < 256) (h : P k f) : P (k + 1) (fun x => tm (x ^^^ r) (f x)) := by
  have h1 : P (k + 1) (fun x => tm x (f x)) := ⟨0, f, by omega, h, fun x hx => by show tm x (f x) = 0 ^^^ tm x (f x); rw [Nat.zero_xor]⟩
  exact (h1.xor (h.mul r hr).up).congr fun x hx => tm_xor_left x r _ hx hr
/-- a polynomial divided by x - r -/
theorem P.div : ∀ {k : Nat} {f : Nat → Nat} (r : Nat), r < 256 → P (k + 1) f → ∃ q, P k q ∧ ∀ x, x < 256 → f x = f r ^^^ tm (x ^^^ r) (q x)
  | 0, f, r, hr, ⟨c, g, hc, hg, h⟩ => ⟨fun _ => 0, fun _ _ => rfl, fun x hx => by
      rw [tm_zero_right, h x hx, h r hr, hg x hx, hg r hr, tm_zero_right, tm_zero_right, Nat.xor_zero, Nat.xor_zero]⟩
  | k + 1, f, r, hr, ⟨c, g, hc, hg, h⟩ => by
    obtain ⟨q, hq, e⟩ := hg.div r hr
    have hgr := hg.lt r hr
    refine ⟨fun x => g r ^^^ tm x (q x), ⟨g r, q, hgr, hq, fun _ _ => rfl⟩, fun x hx => ?_⟩
    have hqx := hq.lt x hx
    have hxr := xor_lt hx hr
    rw [h x hx, h r hr, e x hx, tm_xor_right x _ _ hx hgr (tm_lt _ _ hxr), tm_xor_right _ _ _ hxr hgr (tm_lt _ _ hx), tm_xor_left x r (g r) hx hr, tm_left_comm x _ _ hx hxr hqx]
    simp only [Nat.xor_assoc]
    congr 1
    rw [← Nat.xor_assoc (tm r (g r)) (tm x (g r)), Nat.xor_comm (tm r (g r)) (tm x (g r)), Nat.xor_assoc (tm x (g r)), ← Nat.xor_assoc (tm r (g r)) (tm r (g r)), Nat.xor_self, Nat.zero_xor]
theorem tm_eq_zero {a b : Nat} (ha : a < 256) (hb : b < 256) (h : tm a b = 0) (h0 : a ≠ 0) : b = 0 := by
  rcases Nat.eq_zero_or_pos b with h1 | h1
  · exact h1
  · exact absurd h (tm_pos a b ha hb h0 (by omega))
/-- with k zeros it is zero everywhere -/
theorem P.roots : ∀ {k : Nat} {f : Nat → Nat} (S : List Nat), P k f → S.length = k → S.Nodup → (∀ r ∈ S, r < 256 ∧ f r = 0) → ∀ x, x < 256 → f x = 0
  | 0, f, S, h, _, _, _, x, hx => h x hx
  | k + 1, f, [], h, hl, _, _, x, hx => by cases hl
  | k + 1, f, r :: S, h, hl, hn, hz, x, hx => by
    obtain ⟨hr, hfr⟩ := hz r List.mem_cons_self
    obtain ⟨q, hq, e⟩ := h.div r hr
    obtain ⟨hrS, hn'⟩ := List.nodup_cons.1 hn
    have hq0 := hq.roots S (by simpa using hl) hn' (fun s hs => by
      obtain ⟨h1, h2⟩ := hz s (List.mem_cons_of_mem _ hs)
      refine ⟨h1, ?_⟩
      have h3 := e s h1
      rw [h2, hfr, Nat.zero_xor] at h3
      exact tm_eq_zero (xor_lt h1 hr) (hq.lt s h1) h3.symm (Go.Proofs.YtehjikogdaclgaaDoor.xor_ne fun e => hrS (e ▸ hs)))
    rw [e x hx, hfr, hq0 x hx, tm_zero_right]; rfl

end Go.Proofs.YtehjikogdaclgaaDoor.Gf
namespace Go.Proofs.YtehjikogdaclgaaDoor
open Gf

/-- the product of x with the places before j but i -/
def pnX (l : List Nat) (x i : Nat) : Nat → Nat
  | 0 => 1
  | j + 1 => if i ≠ j then tm (pnX l x i j) (x ^^^ l.getD j 0) else pnX l x i j
theorem pnX_succ (l : List Nat) (x i j : Nat) : pnX l x i (j + 1) = if i ≠ j then tm (pnX l x i j) (x ^^^ l.getD j 0) else pnX l x i j := rfl
theorem pnX_lt (l : List Nat) (x i : Nat) : ∀ j, pnX l x i j < 256
  | 0 => by show 1 < 256; omega
  | j + 1 => by
    unfold pnX
    split
    · exact tm_lt _ _ (pnX_lt l x i j)
    · exact pnX_lt l x i j
theorem pnX_self (l : List Nat) (i : Nat) : ∀ j, pnX l (l.getD i 0) i j = pnTo l i j
  | 0 => rfl
  | j + 1 => by unfold pnX pnTo; rw [pnX_self l i j]
theorem pnX_zero (l : List Nat) (x i m : Nat) (hm : l.getD m 0 = x) (him : i ≠ m) : ∀ j, m < j → pnX l x i j = 0
  | 0, h => by omega
  | j + 1, h => by
    unfold pnX
    by_cases e : m = j
    · subst e
      rw [if_pos him, hm, Nat.xor_self, tm_zero_right]
    · rw [pnX_zero l x i m hm him j (by omega)]
      split
      · exact tm_zero_left _
      · rfl
theorem pxTo_pnX (l : List Nat) (hl : ∀ i, l.getD i 0 < 256) (x i : Nat) (hx : x < 256) : ∀ k, pxTo l x k = if i < k then tm (pnX l x i k) (x ^^^ l.getD i 0) else pnX l x i k
  | 0 => rfl
  | k + 1 => by
    have hk := xor_lt hx (hl k)
    have hi := xor_lt hx (hl i)
    have hp := pnX_lt l x i k
    unfold pxTo pnX
    rw [pxTo_pnX l hl x i hx k]
    by_cases h1 : i < k
    · rw [if_pos h1, if_pos (by omega), if_pos (by omega), tm_assoc _ _ _ hp hi hk, tm_comm _ _ hi hk, ← tm_assoc _ _ _ hp hk hi]
    · rw [if_neg h1]
      by_cases h2 : i = k
      · subst h2
        rw [if_pos (by omega), if_neg (by omega)]
      · rw [if_neg (by omega), if_pos h2]
/-- the weight of place i, for any x -/
def bas (l : List Nat) (i x : Nat) : Nat := tm (pnX l x i l.length) (scale l i)
theorem scale_lt (l : List Nat) (i : Nat) : scale l i < 256 := iv_lt _
theorem idx_of_getD (l : List Nat) (x : Nat) (h : x ∈ l) : l.idxOf x < l.length ∧ l.getD (l.idxOf x) 0 = x := by
  have h1 := List.idxOf_lt_length_of_mem h
  refine ⟨h1, ?_⟩
  rw [List.getD_eq_getElem?_getD, List.getElem?_eq_getElem h1]
  exact List.getElem_idxOf h1
theorem wts_bas (l : List Nat) (hl : ∀ i, l.getD i 0 < 256) (hd : l.Nodup) (x : Nat) (hx : x < 256) (i : Nat) (hi : i < l.length) : (wts l (scales l) x).getD i 0 = bas l i x := by
  unfold wts bas
  by_cases hm : x ∈ l
  · rw [if_pos hm]
    obtain ⟨h1, h2⟩ := idx_of_getD l x hm
    generalize l.idxOf x = m at *
    rw [List.getD_eq_getElem?_getD, List.getElem?_set]
    by_cases e : m = i
    · subst e
      rw [if_pos rfl, List.length_replicate, if_pos h1, ← h2, pnX_self]
      exact (tm_iv _ (pnTo_lt l hl m _) (pnTo_pos l hl hd m hi _ (Nat.le_refl _))).symm
    · rw [if_neg e, pnX_zero l x i m h2 (fun e2 => e e2.symm) _ h1, tm_zero_left]
      simp [hi]
  · rw [if_neg hm, List.getD_eq_getElem?_getD, List.getElem?_map, List.getElem?_range hi]
    show wt l (scales l) x i = _
    unfold wt
    rw [scales_getD l i hi, pxTo_pnX l hl x i hx, if_pos hi]
    have h0 : x ^^^ l.getD i 0 ≠ 0 := xor_ne fun e => hm (by
      rw [e, List.getD_eq_getElem?_getD, List.getElem?_eq_getElem hi]
      exact List.getElem_mem hi)
    have h1 := xor_lt hx (hl i)
    rw [tm_assoc _ _ _ (pnX_lt _ _ _ _) h1 (iv_lt _), tm_iv _ h1 h0, tm_one_right _ (pnX_lt _ _ _ _)]
theorem pnX_poly (l : List Nat) (hl : ∀ i, l.getD i 0 < 256) (i : Nat) : ∀ k, P (if i < k then k else k + 1) (fun x => pnX l x i k)
  | 0 => ⟨1, fun _ => 0, by omega, P.zero 0, fun x hx => by rw [tm_zero_right]; rfl⟩
  | k + 1 => by
    have h := pnX_poly l hl i k
    by_cases e : i = k
    · subst e
      rw [if_neg (Nat.lt_irrefl i)] at h
      rw [if_pos (by omega)]
      refine h.congr fun x hx => ?_
      show pnX l x i (i + 1) = _
      rw [pnX_succ, if_neg (by simp)]
    · have h2 := h.lin (l.getD k 0) (hl k)
      have e2 : (if i < k + 1 then k + 1 else k + 1 + 1) = (if i < k then k else k + 1) + 1 := by
        by_cases h3 : i < k
        · rw [if_pos h3, if_pos (by omega)]
        · rw [if_neg h3, if_neg (by omega)]
      rw [e2]
      refine h2.congr fun x hx => ?_
      show pnX l x i (k + 1) = _
      rw [pnX_succ, if_pos e, tm_comm _ _ (pnX_lt _ _ _ _) (xor_lt hx (hl k))]
theorem bas_poly (l : List Nat) (hl : ∀ i, l.getD i 0 < 256) (i : Nat) (hi : i < l.length) : P l.length (bas l i) := by
  have h := (pnX_poly l hl i l.length).mul (scale l i) (scale_lt l i)
  rw [if_pos hi] at h
  exact h.congr fun x hx => tm_comm _ _ (pnX_lt _ _ _ _) (scale_lt l i)
theorem sx_poly {n : Nat} (F : Nat → Nat → Nat) : ∀ k, (∀ i, i < k → P n (F i)) → P n (fun x => sx (fun i => F i x) k)
  | 0, _ => P.zero n
  | k + 1, h => (sx_poly F k fun i hi => h i (by omega)).xor (h k (by omega))
/-- the polynomial through the values y at the places l -/
def through (l : List Nat) (y : Nat → Nat) (x : Nat) : Nat := sx (fun i => tm ((wts l (scales l) x).getD i 0) (y i)) l.length
theorem through_poly (l : List Nat) (hl : ∀ i, l.getD i 0 < 256) (hd : l.Nodup) (y : Nat → Nat) (hy : ∀ i, y i < 256) : P l.length (through l y) := by
  refine (sx_poly (fun i x => tm (y i) (bas l i x)) l.length fun i hi => (bas_poly l hl i hi).mul (y i) (hy i)).congr fun x hx => ?_
  refine sx_congr _ fun i hi => ?_
  show tm ((wts l (scales l) x).getD i 0) (y i) = tm (y i) (bas l i x)
  rw [wts_bas l hl hd x hx i hi, tm_comm (bas l i x) (y i) (tm_lt _ _ (pnX_lt _ _ _ _)) (hy i)]
theorem sx_one (f : Nat → Nat) (m : Nat) (h0 : ∀ i, i ≠ m → f i = 0) : ∀ k, sx f k = if m < k then f m else 0
  | 0 => rfl
  | k + 1 => by
    show sx f k ^^^ f k = _
    rw [sx_one f m h0 k]
    by_cases h1 : m < k
    · rw [if_pos h1, if_pos (by omega), h0 k (by omega), Nat.xor_zero]
    · rw [if_neg h1, Nat.zero_xor]
      by_cases h2 : m = k
      · subst h2; rw [if_pos (by omega)]
      · rw [if_neg (by omega), h0 k (fun e => h2 e.symm)]
theorem through_at (l : List Nat) (hd : l.Nodup) (y : Nat → Nat) (hy : ∀ i, y i < 256) (m : Nat) (hm : m < l.length) : through l y (l.getD m 0) = y m := by
  have hmem : l.getD m 0 ∈ l := by
    rw [List.getD_eq_getElem?_getD, List.getElem?_eq_getElem hm]
    exact List.getElem_mem hm
  obtain ⟨h1, h2⟩ := idx_of_getD l _ hmem
  have hi : l.idxOf (l.getD m 0) = m := by
    refine Classical.byContradiction fun e => nodup_getD hd h1 hm e h2
  have hw : ∀ i, (wts l (scales l) (l.getD m 0)).getD i 0 = if i = m then 1 else 0 := fun i => by
    unfold wts
    rw [if_pos hmem, hi, List.getD_eq_getElem?_getD, List.getElem?_set]
    by_cases e : m = i
    · subst e; rw [if_pos rfl, List.length_replicate, if_pos hm, if_pos rfl]; rfl
    · rw [if_neg e, if_neg (fun e2 => e e2.symm)]
      by_cases h3 : i < l.length
      · simp [h3]
      · rw [List.getElem?_eq_none (by simp; omega)]; rfl
  unfold through
  rw [sx_one _ m (fun i hi => by rw [hw i, if_neg hi, tm_zero_left]), if_pos hm, hw m, if_pos rfl, tm_one _ (hy m)]
/-- two polynomials of as many coefficients as there are places, which agree at the places, are equal -/
theorem Gf.P.same {n : Nat} {f g : Nat → Nat} (S : List Nat) (hf : P n f) (hg : P n g) (hl : S.length = n) (hd : S.Nodup) (hz : ∀ r ∈ S, r < 256 ∧ f r = g r) (x : Nat) (hx : x < 256) : f x = g x := by
  have h := (hf.xor hg).roots S hl hd (fun r hr => ⟨(hz r hr).1, by show f r ^^^ g r = 0; rw [(hz r hr).2, Nat.xor_self]⟩) x hx
  have h2 : f x ^^^ g x ^^^ g x = 0 ^^^ g x := by rw [h]
  rwa [Nat.xor_assoc, Nat.xor_self, Nat.xor_zero, Nat.zero_xor] at h2
end Go.Proofs.YtehjikogdaclgaaDoor

namespace Go.Proofs.YtehjikogdaclgaaDoor
open Go Go.RowKit
set_option linter.unusedVariables false

def nis (s : List Nat) : List Value := s.map fun (n : Nat) => .int .i64 n
theorem nis_snoc (s : List Nat) (n : Nat) : nis s ++ [.int .i64 (n : Int)] = nis (s ++ [n]) := by simp [nis]
theorem nis_append (s t : List Nat) : nis s ++ nis t = nis (s ++ t) := by simp [nis]
theorem nis_one (s : List Nat) : ∀ v ∈ nis s, v.oneCell' = true := by
  intro v hv
  unfold nis at hv
  obtain ⟨x, _, rfl⟩ := List.mem_map.1 hv
  rfl
/-- what choose returns: k different numbers below total -/
structure Chosen (k total : Nat) (s : List Nat) : Prop where
  len : s.length = k
  nod : s.Nodup
  lt : ∀ n ∈ s, n < total

theorem perm_step (O L : List Nat) (j : Nat) (hj : j < L.length) : ((O ++ [L.getD j 0]) ++ (L.take j ++ L.drop (j + 1))).Perm (O ++ L) := by
  rw [List.append_assoc]
  refine List.Perm.append_left O ?_
  rw [List.singleton_append]
  have e : L = L.take j ++ (L.getD j 0 :: L.drop (j + 1)) := by
    rw [List.getD_eq_getElem?_getD, List.getElem?_eq_getElem hj]
    show L = L.take j ++ (L[j] :: L.drop (j + 1))
    rw [← List.drop_eq_getElem_cons hj, List.take_append_drop]
  refine List.Perm.trans ?_ (List.Perm.of_eq e.symm)
  exact List.perm_middle.symm

theorem tmod_lo (z : Int) (n : Nat) (h : 0 < n) : -(n : Int) < z.tmod n ∧ z.tmod n < n := by
  have h1 := Int.emod_nonneg z (b := n) (by omega)
  have h2 := Int.emod_lt_of_pos z (b := n) (by omega)
  have h3 := Int.tmod_eq_emod (a := z) (b := n)
  rw [h3]
  split
  · omega
  · rename_i hh
    have : (z % (n : Int)) ≠ 0 := fun e => hh (.inr (Int.dvd_of_emod_eq_zero e))
    omega
end Go.Proofs.YtehjikogdaclgaaDoor

namespace Go.Proofs.YtehjikogdaclgaaDoor
open Go Go.RowKit Gf
set_option linter.unusedVariables false

theorem rangeR_getD (k i : Nat) (h : i < k) : (List.range k).getD i 0 = i := by
  rw [List.getD_eq_getElem?_getD, List.getElem?_range h]; rfl
theorem rangeR_lt (k : Nat) (hk : k ≤ 256) (i : Nat) : (List.range k).getD i 0 < 256 := by
  by_cases h : i < k
  · rw [rangeR_getD k i h]; omega
  · rw [List.getD_eq_getElem?_getD, List.getElem?_eq_none (by simp; omega)]; show 0 < 256; omega
theorem encR_length (d : List Nat) (k L i : Nat) : (encP d k L i).length = L := by
  unfold encP
  split
  · exact spl_length _ _ _
  · exact mixL_length _ _ _ _
/-- column c of an encoding is a polynomial's values -/
theorem encR_through (d : List Nat) (hd : ∀ i, d.getD i 0 < 256) (k L i c : Nat) (hc : c < L) : (encP d k L i).getD c 0 = through (List.range k) (fun j => d.getD (j * L + c) 0) i := by
  unfold encP
  by_cases h : i < k
  · rw [if_pos h, spl_getD d L i c hc]
    have h2 := through_at (List.range k) List.nodup_range (fun j => d.getD (j * L + c) 0) (fun _ => hd _) i (by simpa using h)
    rw [rangeR_getD k i h] at h2
    exact h2.symm
  · rw [if_neg h, mixL_getD _ _ _ _ _ hc]
    unfold through
    rw [List.length_range]
    refine sx_congr k fun j hj => ?_
    rw [range_map_getD _ _ _ hj, spl_getD d L j c hc]
theorem encR_poly (d : List Nat) (hd : ∀ i, d.getD i 0 < 256) (k L c : Nat) (hk : k ≤ 256) (hc : c < L) : P k fun x => (encP d k L x).getD c 0 := by
  have h := through_poly (List.range k) (rangeR_lt k hk) List.nodup_range (fun j => d.getD (j * L + c) 0) (fun _ => hd _)
  rw [List.length_range] at h
  exact h.congr fun x _ => encR_through d hd k L x c hc
theorem encR_lt (d : List Nat) (hd : ∀ i, d.getD i 0 < 256) (k L i c : Nat) (hk : k ≤ 256) (hi : i < 256) : (encP d k L i).getD c 0 < 256 := by
  by_cases hc : c < L
  · exact (encR_poly d hd k L c hk hc).lt i hi
  · rw [List.getD_eq_getElem?_getD, List.getElem?_eq_none (by rw [encR_length]; omega)]; show 0 < 256; omega
/-- the pieces with the numbers s -/
def rowsD (d : List Nat) (k L : Nat) (s : List Nat) (j : Nat) : List Nat := encP d k L (s.getD j 0)
theorem Chosen.getD_lt {k t : Nat} {s : List Nat} (h : Chosen k t s) (ht : 0 < t) (i : Nat) : s.getD i 0 < t := by
  by_cases hi : i < s.length
  · rw [List.getD_eq_getElem?_getD, List.getElem?_eq_getElem hi]
    exact h.lt _ (List.getElem_mem _)
  · rw [List.getD_eq_getElem?_getD, List.getElem?_eq_none (by omega)]
    exact ht
theorem mix_rows (d : List Nat) (hd : ∀ i, d.getD i 0 < 256) {k t : Nat} (L : Nat) {s : List Nat} (hs : Chosen k t s) (ht : t ≤ 255) (hk : 1 ≤ k) (hkt : k ≤ t) (x : Nat) (hx : x < 256) :
    mixL ((List.range k).map (rowsD d k L s)) (wts s (scales s) x) L k = encP d k L x := by
  have hsl : ∀ i, s.getD i 0 < 256 := fun i => by have := hs.getD_lt (by omega) i; omega
  refine ext_getD (by rw [mixL_length, encR_length]) fun c hc => ?_
  rw [mixL_length] at hc
  rw [mixL_getD _ _ _ _ _ hc]
  have hy : ∀ j, (encP d k L (s.getD j 0)).getD c 0 < 256 := fun j => encR_lt d hd k L _ c (by omega) (hsl j)
  have h1 : sx (fun i => tm ((wts s (scales s) x).getD i 0) ((((List.range k).map (rowsD d k L s)).getD i []).getD c 0)) k = through s (fun j => (encP d k L (s.getD j 0)).getD c 0) x := by
    unfold through
    rw [hs.len]
    refine sx_congr _ fun j hj => ?_
    rw [range_map_getD _ _ _ hj]
    rfl
  rw [h1]
  have hp := through_poly s hsl hs.nod (fun j => (encP d k L (s.getD j 0)).getD c 0) hy
  rw [hs.len] at hp
  refine hp.same s (encR_poly d hd k L c (by omega) hc) hs.len hs.nod (fun r hr => ?_) x hx
  obtain ⟨h2, h3⟩ := idx_of_getD s r hr
  have h4 := through_at s hs.nod (fun j => (encP d k L (s.getD j 0)).getD c 0) hy _ h2
  rw [h3] at h4
  refine ⟨by have := hs.lt r hr; omega, h4⟩
theorem join_rows (d : List Nat) (hd : ∀ i, d.getD i 0 < 256) {k t : Nat} (L : Nat) {s : List Nat} (hs : Chosen k t s) (ht : t ≤ 255) (hk : 1 ≤ k) (hkt : k ≤ t) (hn : d.length ≤ k * L) :
    joinL ((List.range k).map (rowsD d k L s)) s L k d.length = d := by
  refine ext_getD (by simp [joinL]) fun p hp => ?_
  have hp : p < d.length := by simpa [joinL] using hp
  have hL : 0 < L := by
    rcases Nat.eq_zero_or_pos L with e | e
    · subst e; omega
    · exact e
  have hc : p % L < L := Nat.mod_lt _ hL
  have hj : p / L < k := by rw [Nat.div_lt_iff_lt_mul hL]; omega
  have he : p / L * L + p % L = p := by rw [Nat.mul_comm]; exact Nat.div_add_mod p L
  unfold joinL
  rw [List.getD_eq_getElem?_getD, List.getElem?_map, List.getElem?_range hp]
  show joinF _ _ _ _ p = _
  unfold joinF
  rw [mix_rows d hd L hs ht hk hkt (p / L) (by omega)]
  unfold encP
  rw [if_pos hj, spl_getD d L _ _ hc, he]
end Go.Proofs.YtehjikogdaclgaaDoor
