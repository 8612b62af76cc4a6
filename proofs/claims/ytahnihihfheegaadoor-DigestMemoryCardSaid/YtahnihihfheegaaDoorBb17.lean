/-
  Regenerate: the piece that others determine; what it answers. · A piece that a law's region makes: its allocation and its store as steps; bytes that lie elsewhere; a copy's answers. · The reference's Regenerate. · A law's call of Make: the steps of its region, and what they leave.
-/
import Derived.Test.YtahnihihfheegaaDoorBb15
import Derived.Test.YtahnihihfheegaaDoorBb16
import Derived.Test.YtahnihihfheegaaDoorBb11
import Derived.Test.YtahnihihfheegaaDoorBb12
import Derived.Test.YtahnihihfheegaaDoorBb6
import Derived.Test.YtahnihihfheegaaDoorBb10
namespace Go.Proofs.YtahnihihfheegaaDoor
open Go Go.RowKit
set_option linter.unusedVariables false

/-- the piece that others determine -/
def pieceL (k : Int) (ps : List (Int × Sl)) (Dd : Nat → List Nat) (I : Int) : List Nat := mixL ((List.range k.toNat).map Dd) (wts (places ps k.toNat) (scales (places ps k.toNat)) I.toNat) (plen' ps 0) k.toNat
/-- the error of Regenerate -/
def regE (k n t s : Int) (m : Nat) (D : List (List Nat)) (ps : List (Int × Sl)) (Dd : Nat → List Nat) (pn : Nat) (I : Int) : Int :=
  if manB k n t s m = true then
    (if I < 0 ∨ t ≤ I then 2 else if dAll k (pidx ps) (fun i => cpE k n t s m D (pidx ps i) (Dd i)) pn = 0 then (if dig shaRound shaStart ([hi8 I, lo8 I] ++ pieceL k ps Dd I) = D.getD I.toNat [] then 0 else 20) else dAll k (pidx ps) (fun i => cpE k n t s m D (pidx ps i) (Dd i)) pn)
  else 2
def regI (k n t s : Int) (m : Nat) (D : List (List Nat)) (ps : List (Int × Sl)) (Dd : Nat → List Nat) (pn : Nat) (I : Int) : Int := if regE k n t s m D ps Dd pn I = 0 then I else 0
def regL (k n t s : Int) (m : Nat) (D : List (List Nat)) (ps : List (Int × Sl)) (Dd : Nat → List Nat) (pn : Nat) (I : Int) : List Nat := if regE k n t s m D ps Dd pn I = 0 then pieceL k ps Dd I else []
/-- a piece and an error -/
def RgnRes (x i : Int) (L : List Nat) (e : Ending) (w' : World) : Prop := ∃ ra rc, e = .returned (.tuple #[.agg #[.int .i64 i, .slice ra L.length rc], .int .i64 x]) ∧ Bs w' (.slice ra L.length rc) L ∧ L.length ≤ rc ∧ (ra = none → rc = 0)
theorem rgnRes_none (x : Int) (w : World) : RgnRes x 0 [] (.returned (.tuple #[.agg #[.int .i64 0, .slice none 0 0], .int .i64 x])) w := ⟨_, _, rfl, bs_nil _, Nat.le_refl _, fun _ => rfl⟩
theorem rgnRes_some {O : List Nat} {i : Int} {ob sz : Nat} {w' : World} (hl : O.length = sz) (h : Bs w' (.slice (some ⟨ob, 0, none⟩) sz sz) O) : RgnRes 0 i O (.returned (.tuple #[.agg #[.int .i64 i, .slice (some ⟨ob, 0, none⟩) sz sz], .int .i64 0])) w' := by
  subst hl
  exact ⟨_, _, rfl, h, Nat.le_refl _, fun h => by cases h⟩
theorem fld_setA {w : World} {fb q : Nat} (h : Fld w fb) (hne : fb ≠ q) (j : Nat) (u : Value) : Fld (w.setCell ⟨q, j, none⟩ u) fb :=
  h.elim (fun h => .inl ((heap_setCell_other w _ _ _ hne).trans h)) (fun h => .inr ((heap_setCell_other w _ _ _ hne).trans h))
theorem range_keptA {w w' : World} {fb b o : Nat} {cs : List Value} (h : w.rangeAt b o cs) (k : Kept fb w w') (hne : b ≠ fb) : w'.rangeAt b o cs := fun j v hj => by
  have h1 := h j v hj
  have hlt := World.block_lt_of_cell? _ _ h1
  exact (World.cell?_of_block (a := ⟨b, o + j, none⟩) (k.block b hlt hne)).trans h1
theorem piece_freeA {w : World} {b : Nat} {x y : Value} {t : TypeId} (h : w.heap[b]? = some (.cells #[x, y] t (0, 0))) : w.cell? ⟨b, 0, none⟩ = some x ∧ w.cell? ⟨b, 1, none⟩ = some y ∧ w.frozen? ⟨b, 0, none⟩ = false ∧ w.frozen? ⟨b, 1, none⟩ = false :=
  piece_free h (Below.refl w.heap.size w) (lt_of_heap h)

set_option maxRecDepth 100000 in
set_option maxHeartbeats 8000000 in
theorem rgn_any (fb : Nat) (w : World) (V : Vars w shaRound shaStart) (k n t s : Int) (od : List Nat) (a : Option Addr) (m c : Nat) (D : List (List Nat)) (ho : od.length = 32) (hD : Dgs w a m c D) (pa : Option Addr) (pn pc : Nat) (ps : List (Int × Sl)) (Dd : Nat → List Nat) (hd : PDat w ps Dd) (hpn : pn ≤ 100000) (hpc : pn ≤ pc) (hF : Fld w fb) (hlo : 3 ≤ fb) (hH : Held fb w (.slice pa pn pc) ps Dd) (hoffm : ∀ ad, a = some ad → ad.block ≠ fb) (I : Int) :
    Calls Tryd.prog 16 #[.pointer (some ⟨fb, 0, none⟩), .agg (mcells k n t s od (.slice a m c)).toArray, .slice pa pn pc, .int .i64 I] w fun e w' => RgnRes (regE k n t s m D ps Dd pn I) (regI k n t s m D ps Dd pn I) (regL k n t s m D ps Dd pn I) e w' ∧ Fld w' fb ∧ Kept fb w w' := by
  obtain ⟨w0, hw0⟩ : ∃ y, y = (w.alloc (.cells (mcells k n t s od (.slice a m c)).toArray 27)).alloc (.cells #[.int .i64 0, .slice none 0 0] 44) := ⟨_, rfl⟩
  have hs1 : (w.alloc (.cells (mcells k n t s od (.slice a m c)).toArray 27)).heap.size = w.heap.size + 1 := by simp
  have HB0 := hid (show Below w.heap.size w w0 from by rw [hw0]; exact ((Below.refl _ _).alloc (Nat.le_refl _) _).alloc (by simp) _)
  have HM := hid (show ManAt w0 w.heap.size k n t s od (.slice a m c) from by rw [hw0]; exact (heap_alloc_old _ _ (by simp)).trans (heap_new _ _))
  have HZ := hid (show w0.heap[w.heap.size + 1]? = some (.cells #[.int .i64 0, .slice none 0 0] 44 (0, 0)) from by rw [hw0, ← hs1]; exact heap_new _ _)
  have HIF := hid (show (Tryd.prog.info? 27).map (·.size) = some (mcells k n t s od (.slice a m c)).length from by rw [mcells_length _ _ _ _ _ _ ho]; kernel_rfl)
  have HCM := hid (fun wx => CheckManifest_any k n t s od a m c ho wx)
  have HCK := hid (fun (wx : World) (b : Below w.heap.size w wx) => ckp_any wx (V.below b) k n t s od a m c D ho (hD.below b) pa pn pc ps Dd (hH.now.1.below b) (hd.below b) hpn)
  have HRA := hid (range_of_heapI HM.out)
  have HO := hid ho
  have HV := hid V
  have HDD := hid hD
  have HPD := hid hd
  have hfl := hF.lt
  have HFF := hid hF
  have HH := hid hH
  have HN := hid hH.len
  clear hs1 ho V hD hd hF hH
  cases hv : manB k n t s m with
  | false => as_aux_lemma =>
    have HR1 := hid (show regE k n t s m D ps Dd pn I = 2 from by unfold regE; rw [hv]; rfl)
    have HR2 := hid (show regL k n t s m D ps Dd pn I = [] from by unfold regL; rw [HR1.out]; rfl)
    have HR3' := hid (show regI k n t s m D ps Dd pn I = 0 from by unfold regI; rw [HR1.out]; rfl)
    rw [show manE k n t s m = 2 from by unfold manE; rw [hv]; rfl] at HCM
    clear hv HCK
    go_enter Tryd.func16, Tryd.ntmps16
    go_upto_region 1 with fail
    change Code.wp _ _ _ _ ((w.alloc (.cells (mcells k n t s od (.slice a m c)).toArray 27)).alloc (.cells #[.int .i64 0, .slice none 0 0] 44))
    rw [← hw0]
    clear hw0
    go_wp2_with (refine wpList_load_mid (by rfl) 27 (.tmp 5) (by rfl) w.heap.size 0 (by rfl) (mcells k n t s od (.slice a m c)) _ HRA.out Tryd.underlying27 rfl HIF.out ?_)
    refine (HCM.out w0).mono ?_
    rintro e w3 ⟨rfl, hb3⟩
    have HB3 := hid (HB0.out.trans (hb3.mono HB0.out.size))
    have HR3 := hid (range_below HRA.out hb3)
    have HM3 := hid (show ManAt w3 w.heap.size k n t s od (.slice a m c) from (hb3.block _ (lt_of_heap HM.out)).trans HM.out)
    have HZ3 := hid ((hb3.block _ (lt_of_heap HZ.out)).trans HZ.out)
    clear hb3
    obtain ⟨c0, -, c2, c3, -⟩ := HM3.out.c HO.out
    obtain ⟨d0, d1, f0, f1⟩ := piece_freeA HZ3.out
    go_wp2
    exact bodyPost_ret (v := .tuple #[.agg #[.int .i64 0, .slice none 0 0], .int .i64 2]) (by simp [results, Tryd.results16, go_sem, d0, d1]) rfl ⟨by rw [HR1.out, HR3'.out, HR2.out]; exact rgnRes_none _ _, fld_belowA HFF.out ((HB3.out.setCell (p := ⟨w.heap.size + 1, 0, none⟩) (by simp) _).setCell (p := ⟨w.heap.size + 1, 1, none⟩) (by simp) _), Kept.of_below ((HB3.out.setCell (p := ⟨w.heap.size + 1, 0, none⟩) (by simp) _).setCell (p := ⟨w.heap.size + 1, 1, none⟩) (by simp) _)⟩
  | true =>
    rw [show manE k n t s m = 0 from by unfold manE; rw [hv]; rfl] at HCM
    have hnum : 1 ≤ k ∧ k ≤ n ∧ n ≤ t ∧ t ≤ 255 ∧ 0 ≤ s ∧ s ≤ 8192 ∧ (m : Int) = t := by
      have hok := hv
      unfold manB vnB vcB at hok
      simp only [Bool.and_eq_true, decide_eq_true_eq] at hok
      omega
    have HU := hid (show regE k n t s m D ps Dd pn I = (if I < 0 ∨ t ≤ I then 2 else if dAll k (pidx ps) (fun i => cpE k n t s m D (pidx ps i) (Dd i)) pn = 0 then (if dig shaRound shaStart ([hi8 I, lo8 I] ++ pieceL k ps Dd I) = D.getD I.toNat [] then 0 else 20) else dAll k (pidx ps) (fun i => cpE k n t s m D (pidx ps i) (Dd i)) pn) from by unfold regE; rw [if_pos hv])
    clear hv
    by_cases hI : I < 0 ∨ t ≤ I
    · have HR1 := hid (show regE k n t s m D ps Dd pn I = 2 from by rw [HU.out, if_pos hI])
      have HR2 := hid (show regL k n t s m D ps Dd pn I = [] from by unfold regL; rw [HR1.out]; rfl)
      have HR3' := hid (show regI k n t s m D ps Dd pn I = 0 from by unfold regI; rw [HR1.out]; rfl)
      clear HU HCK
      by_cases h0 : I < 0
      · as_aux_lemma =>
        clear hI
        go_enter Tryd.func16, Tryd.ntmps16
        go_upto_region 1 with fail
        change Code.wp _ _ _ _ ((w.alloc (.cells (mcells k n t s od (.slice a m c)).toArray 27)).alloc (.cells #[.int .i64 0, .slice none 0 0] 44))
        rw [← hw0]
        clear hw0
        go_wp2_with (refine wpList_load_mid (by rfl) 27 (.tmp 5) (by rfl) w.heap.size 0 (by rfl) (mcells k n t s od (.slice a m c)) _ HRA.out Tryd.underlying27 rfl HIF.out ?_)
        refine (HCM.out w0).mono ?_
        rintro e w3 ⟨rfl, hb3⟩
        have HB3 := hid (HB0.out.trans (hb3.mono HB0.out.size))
        have HR3 := hid (range_below HRA.out hb3)
        have HM3 := hid (show ManAt w3 w.heap.size k n t s od (.slice a m c) from (hb3.block _ (lt_of_heap HM.out)).trans HM.out)
        have HZ3 := hid ((hb3.block _ (lt_of_heap HZ.out)).trans HZ.out)
        clear hb3
        obtain ⟨c0, -, c2, c3, -⟩ := HM3.out.c HO.out
        obtain ⟨d0, d1, f0, f1⟩ := piece_freeA HZ3.out
        go_wp2
        exact bodyPost_ret (v := .tuple #[.agg #[.int .i64 0, .slice none 0 0], .int .i64 2]) (by simp [results, Tryd.results16, go_sem, d0, d1]) rfl ⟨by rw [HR1.out, HR3'.out, HR2.out]; exact rgnRes_none _ _, fld_belowA HFF.out ((HB3.out.setCell (p := ⟨w.heap.size + 1, 0, none⟩) (by simp) _).setCell (p := ⟨w.heap.size + 1, 1, none⟩) (by simp) _), Kept.of_below ((HB3.out.setCell (p := ⟨w.heap.size + 1, 0, none⟩) (by simp) _).setCell (p := ⟨w.heap.size + 1, 1, none⟩) (by simp) _)⟩
      · as_aux_lemma =>
        have h1 : t ≤ I := by omega
        clear hI
        go_enter Tryd.func16, Tryd.ntmps16
        go_upto_region 1 with fail
        change Code.wp _ _ _ _ ((w.alloc (.cells (mcells k n t s od (.slice a m c)).toArray 27)).alloc (.cells #[.int .i64 0, .slice none 0 0] 44))
        rw [← hw0]
        clear hw0
        go_wp2_with (refine wpList_load_mid (by rfl) 27 (.tmp 5) (by rfl) w.heap.size 0 (by rfl) (mcells k n t s od (.slice a m c)) _ HRA.out Tryd.underlying27 rfl HIF.out ?_)
        refine (HCM.out w0).mono ?_
        rintro e w3 ⟨rfl, hb3⟩
        have HB3 := hid (HB0.out.trans (hb3.mono HB0.out.size))
        have HR3 := hid (range_below HRA.out hb3)
        have HM3 := hid (show ManAt w3 w.heap.size k n t s od (.slice a m c) from (hb3.block _ (lt_of_heap HM.out)).trans HM.out)
        have HZ3 := hid ((hb3.block _ (lt_of_heap HZ.out)).trans HZ.out)
        clear hb3
        obtain ⟨c0, -, c2, c3, -⟩ := HM3.out.c HO.out
        obtain ⟨d0, d1, f0, f1⟩ := piece_freeA HZ3.out
        go_wp2
        exact bodyPost_ret (v := .tuple #[.agg #[.int .i64 0, .slice none 0 0], .int .i64 2]) (by simp [results, Tryd.results16, go_sem, d0, d1]) rfl ⟨by rw [HR1.out, HR3'.out, HR2.out]; exact rgnRes_none _ _, fld_belowA HFF.out ((HB3.out.setCell (p := ⟨w.heap.size + 1, 0, none⟩) (by simp) _).setCell (p := ⟨w.heap.size + 1, 1, none⟩) (by simp) _), Kept.of_below ((HB3.out.setCell (p := ⟨w.heap.size + 1, 0, none⟩) (by simp) _).setCell (p := ⟨w.heap.size + 1, 1, none⟩) (by simp) _)⟩
    have h0 : ¬ I < 0 := fun h => hI (.inl h)
    have h1 : ¬ t ≤ I := fun h => hI (.inr h)
    by_cases hda : dAll k (pidx ps) (fun i => cpE k n t s m D (pidx ps i) (Dd i)) pn = 0
    case neg => as_aux_lemma =>
      have HR1 := hid (show regE k n t s m D ps Dd pn I = dAll k (pidx ps) (fun i => cpE k n t s m D (pidx ps i) (Dd i)) pn from by rw [HU.out, if_neg hI, if_neg hda])
      have HR2 := hid (show regL k n t s m D ps Dd pn I = [] from by unfold regL; rw [HR1.out, if_neg hda])
      have HR3' := hid (show regI k n t s m D ps Dd pn I = 0 from by unfold regI; rw [HR1.out, if_neg hda])
      have b1 : (dAll k (pidx ps) (fun i => cpE k n t s m D (pidx ps i) (Dd i)) pn != 0) = true := by simpa using hda
      clear HU hda hI
      generalize dAll k (pidx ps) (fun i => cpE k n t s m D (pidx ps i) (Dd i)) pn = E at HR1 b1 HCK
      go_enter Tryd.func16, Tryd.ntmps16
      go_upto_region 1 with fail
      change Code.wp _ _ _ _ ((w.alloc (.cells (mcells k n t s od (.slice a m c)).toArray 27)).alloc (.cells #[.int .i64 0, .slice none 0 0] 44))
      rw [← hw0]
      clear hw0
      go_wp2_with (refine wpList_load_mid (by rfl) 27 (.tmp 5) (by rfl) w.heap.size 0 (by rfl) (mcells k n t s od (.slice a m c)) _ HRA.out Tryd.underlying27 rfl HIF.out ?_)
      refine (HCM.out w0).mono ?_
      rintro e w3 ⟨rfl, hb3⟩
      have HB3 := hid (HB0.out.trans (hb3.mono HB0.out.size))
      have HR3 := hid (range_below HRA.out hb3)
      have HM3 := hid (show ManAt w3 w.heap.size k n t s od (.slice a m c) from (hb3.block _ (lt_of_heap HM.out)).trans HM.out)
      have HZ3 := hid ((hb3.block _ (lt_of_heap HZ.out)).trans HZ.out)
      clear hb3
      obtain ⟨c0, -, c2, c3, -⟩ := HM3.out.c HO.out
      go_wp2_with (refine wpList_load_mid (by rfl) 27 (.tmp 5) (by rfl) w.heap.size 0 (by rfl) (mcells k n t s od (.slice a m c)) _ HR3.out Tryd.underlying27 rfl HIF.out ?_)
      refine (HCK.out w3 HB3.out).mono ?_
      rintro e w4 ⟨rfl, hb4⟩
      have HB4 := hid (HB3.out.trans (hb4.mono HB3.out.size))
      have HZ4 := hid ((hb4.block _ (lt_of_heap HZ3.out)).trans HZ3.out)
      clear hb4 c0 c2 c3
      obtain ⟨d0, d1, f0, f1⟩ := piece_freeA HZ4.out
      go_wp2
      exact bodyPost_ret (v := .tuple #[.agg #[.int .i64 0, .slice none 0 0], .int .i64 E]) (by simp [results, Tryd.results16, go_sem, d0, d1]) rfl ⟨by rw [HR1.out, HR3'.out, HR2.out]; exact rgnRes_none _ _, fld_belowA HFF.out ((HB4.out.setCell (p := ⟨w.heap.size + 1, 0, none⟩) (by simp) _).setCell (p := ⟨w.heap.size + 1, 1, none⟩) (by simp) _), Kept.of_below ((HB4.out.setCell (p := ⟨w.heap.size + 1, 0, none⟩) (by simp) _).setCell (p := ⟨w.heap.size + 1, 1, none⟩) (by simp) _)⟩
    case pos =>
      obtain ⟨hz0, hkp, hlen⟩ := rs_right (t := t) HPD.out HN.out hda
      have hz : chkAll k t (pidx ps) (alikeE ps) pn = 0 := by
        obtain ⟨g1, _⟩ := dAll_zero hda
        refine chk_of (fun i hi => ?_) hkp
        obtain ⟨g2, g3⟩ := dTo_all g1 i hi
        obtain ⟨_, e1, e2, _, _, _⟩ := cp_zero g2
        refine ⟨e1, e2, g3, ?_⟩
        unfold alikeE alikeL
        rw [(hlen i hi).2, (hlen 0 (by omega)).2]
        have := plen_le k.toNat s.toNat (by omega)
        rw [if_neg (by omega), if_pos rfl]
      rw [hda] at HCK
      have HPL := hid (show (pieceL k ps Dd I).length = plen' ps 0 from by unfold pieceL; exact mixL_length _ _ _ _)
      have hp0 : plen' ps 0 ≤ 8192 := by rw [(hlen 0 (by omega)).2]; have := plen_le k.toNat s.toNat (by omega); omega
      have HDC := hid (fun (wx : World) (b : Below w.heap.size w wx) => Rebuild_okN fb k.toNat t.toNat I.toNat pa pn pc ps Dd (by omega) (by omega) (by omega) (by omega) hpn hpc wx (fld_belowA HFF.out b) (HH.out.step (Kept.of_below b)) (by rw [show ((k.toNat : Nat) : Int) = k from by omega, show ((t.toNat : Nat) : Int) = t from by omega]; exact hz))
      rw [show ((k.toNat : Nat) : Int) = k from by omega, show ((t.toNat : Nat) : Int) = t from by omega, show ((I.toNat : Nat) : Int) = I from by omega] at HDC
      have HUE := hid (show regE k n t s m D ps Dd pn I = (if dig shaRound shaStart ([hi8 I, lo8 I] ++ pieceL k ps Dd I) = D.getD I.toNat [] then 0 else 20) from by rw [HU.out, if_neg hI, if_pos hda])
      have HRL := hid (show regL k n t s m D ps Dd pn I = if regE k n t s m D ps Dd pn I = 0 then pieceL k ps Dd I else [] from rfl)
      have HRI := hid (show regI k n t s m D ps Dd pn I = if regE k n t s m D ps Dd pn I = 0 then I else 0 from rfl)
      have HDC2 := hid (fun (wx : World) (b : Below w.heap.size w wx) => (HDC.out wx b).mono (fun e w' h => (show PieceResN wx.heap.size I (plen' ps 0) (pieceL k ps Dd I) e w' ∧ Built w' fb ∧ Kept fb wx w' from h)))
      obtain ⟨i, hi⟩ : ∃ i : Nat, I = (i : Int) := ⟨I.toNat, by omega⟩
      have him : i < D.length := by have := HDD.out.len; omega
      obtain ⟨b, o', ha, hrg⟩ : ∃ b o', a = some ⟨b, o', none⟩ ∧ ∀ j, j < D.length → w.rangeAt b (o' + j * 32) (u8s (D.getD j [])) := by
        obtain ⟨a', c', h1, h2, h3⟩ := HDD.out.at_
        obtain ⟨b, o', e, h4⟩ := h3 (fun h => by rw [h] at him; simp at him)
        simp only [Value.slice.injEq] at h1
        exact ⟨b, o', h1.1.trans e, h4⟩
      have hl32 : (D.getD i []).length = 32 := by
        rw [List.getD_eq_getElem?_getD, List.getElem?_eq_getElem him]
        exact HDD.out.l32 _ (List.getElem_mem _)
      have HRG := hid (hrg i him)
      obtain ⟨O, hO⟩ : ∃ O, O = pieceL k ps Dd I := ⟨_, rfl⟩
      rw [← hO] at HUE HPL HDC2 HRL
      obtain ⟨Y, hY⟩ : ∃ Y, Y = dig shaRound shaStart ([hi8 I, lo8 I] ++ O) := ⟨_, rfl⟩
      have hY32 : Y.length = 32 := by rw [hY]; exact dig_length _ _ _
      have HSH := hid (fun (wx : World) (V : Vars wx shaRound shaStart) (ob : Nat) (h : Bs wx (.slice (some ⟨ob, 0, none⟩) (plen' ps 0) (plen' ps 0)) O) => pdg_all I (some ⟨ob, 0, none⟩) (plen' ps 0) (plen' ps 0) O wx V h (Nat.le_refl _) (fun h => by cases h) (by omega))
      rw [← hY] at HSH HUE
      obtain ⟨Z, hZ⟩ : ∃ Z, Z = D.getD i [] := ⟨_, rfl⟩
      rw [← hZ] at HRG hl32
      have HEQ := hid (fun wx => eql_any Y Z hY32 hl32 wx)
      have HIFZ := hid (show (Tryd.prog.info? 24).map (·.size) = some (u8s Z).length from by simp only [u8s, List.length_map, hl32]; kernel_rfl)
      have hq0 : ∀ (q : Bool), q = decide (Y = Z) → regE k n t s m D ps Dd pn I = if q then 0 else 20 := by
        rintro q rfl
        rw [HUE.out, hZ, hi]
        simp only [Int.toNat_natCast]
        by_cases h : Y = D.getD i []
        · rw [if_pos h, decide_eq_true h]; rfl
        · rw [if_neg h, decide_eq_false h]; rfl
      generalize hq : decide (Y = Z) = q at *
      have HQ := hid (hq0 q rfl)
      have hmi : (i : Int) < (m : Int) := by have := HDD.out.len; omega
      have hi0 : (0 : Int) ≤ (i : Int) := by omega
      clear hq0 hq hY hY32 hO HUE HDC hz hz0 hkp hlen hda HU hrg him hZ hl32 hI
      subst hi
      subst ha
      cases q
      all_goals as_aux_lemma =>
        go_enter Tryd.func16, Tryd.ntmps16
        go_upto_region 1 with fail
        change Code.wp _ _ _ _ ((w.alloc (.cells (mcells k n t s od (.slice (some ⟨b, o', none⟩) m c)).toArray 27)).alloc (.cells #[.int .i64 0, .slice none 0 0] 44))
        rw [← hw0]
        clear hw0
        go_wp2_with (refine wpList_load_mid (by rfl) 27 (.tmp 5) (by rfl) w.heap.size 0 (by rfl) (mcells k n t s od (.slice (some ⟨b, o', none⟩) m c)) _ HRA.out Tryd.underlying27 rfl HIF.out ?_)
        refine (HCM.out w0).mono ?_
        rintro e w3 ⟨rfl, hb3⟩
        have HB3 := hid (HB0.out.trans (hb3.mono HB0.out.size))
        have HR3 := hid (range_below HRA.out hb3)
        have HM3 := hid (show ManAt w3 w.heap.size k n t s od (.slice (some ⟨b, o', none⟩) m c) from (hb3.block _ (lt_of_heap HM.out)).trans HM.out)
        have HZ3 := hid ((hb3.block _ (lt_of_heap HZ.out)).trans HZ.out)
        clear hb3
        obtain ⟨c0, -, c2, c3, -⟩ := HM3.out.c HO.out
        go_wp2_with (refine wpList_load_mid (by rfl) 27 (.tmp 5) (by rfl) w.heap.size 0 (by rfl) (mcells k n t s od (.slice (some ⟨b, o', none⟩) m c)) _ HR3.out Tryd.underlying27 rfl HIF.out ?_)
        refine (HCK.out w3 HB3.out).mono ?_
        rintro e w4 ⟨rfl, hb4⟩
        have HB4 := hid (HB3.out.trans (hb4.mono HB3.out.size))
        have HM4 := hid (show ManAt w4 w.heap.size k n t s od (.slice (some ⟨b, o', none⟩) m c) from (hb4.block _ (lt_of_heap HM3.out)).trans HM3.out)
        have HZ4 := hid ((hb4.block _ (lt_of_heap HZ3.out)).trans HZ3.out)
        clear hb4 c0 c2 c3
        obtain ⟨c0, -, c2, c3, c36⟩ := HM4.out.c HO.out
        go_wp2_with fail
        refine (HDC2.out w4 HB4.out).mono ?_
        rintro e w5 ⟨⟨ob, hob5, rfl, hbs5⟩, hbu5, hk5⟩
        have HK5 := hid ((Kept.of_below (b := fb) HB4.out).trans hk5)
        have hobz : ob ≠ w.heap.size + 1 := by have := lt_of_heap HZ4.out; omega
        have HBS5 := hid hbs5
        have HBU := hid (show Fld w5 fb from .inr hbu5)
        have HM5 := hid (show ManAt w5 w.heap.size k n t s od (.slice (some ⟨b, o', none⟩) m c) from (hk5.block _ (lt_of_heap HM4.out) (by omega)).trans HM4.out)
        have HZ5 := hid ((hk5.block _ (lt_of_heap HZ4.out) (by omega)).trans HZ4.out)
        have HV5 := hid (HV.out.kept HK5.out hlo)
        have HRG5 := hid (range_keptA HRG.out HK5.out (hoffm _ rfl))
        clear hk5 hbs5 hbu5
        obtain ⟨w6, hw6⟩ : ∃ y, y = w5.alloc (.cells #[.int .i64 (i : Int), .slice (some ⟨ob, 0, none⟩) (plen' ps 0) (plen' ps 0)] 44) := ⟨_, rfl⟩
        have hb56 : Below w5.heap.size w5 w6 := by rw [hw6]; exact (Below.refl _ _).alloc (Nat.le_refl _) _
        have HQB := hid (show w6.heap[w5.heap.size]? = some (.cells #[.int .i64 (i : Int), .slice (some ⟨ob, 0, none⟩) (plen' ps 0) (plen' ps 0)] 44 (0, 0)) from by rw [hw6]; exact heap_new _ _)
        have HK6 := hid (HK5.out.trans (Kept.of_below hb56))
        have HBS6 := hid (HBS5.out.below hb56)
        have HZ6 := hid ((hb56.block _ (lt_of_heap HZ5.out)).trans HZ5.out)
        have hM6 : ManAt w6 w.heap.size k n t s od (.slice (some ⟨b, o', none⟩) m c) := (hb56.block _ (lt_of_heap HM5.out)).trans HM5.out
        have HV6 := hid (HV5.out.below hb56)
        have HRG6 := hid (range_below HRG5.out hb56)
        have HBU6 := hid (fld_belowA HBU.out hb56)
        have q36 := (hM6.c HO.out).2.2.2.2
        obtain ⟨g0, g1, -, -⟩ := piece_freeA HQB.out
        have hne : Nonempty (Cls fun w' => Below w6.heap.size w6 w') := ⟨⟨w6, Below.refl _ _⟩⟩
        have r36 : ∀ p : Cls (fun w' => Below w6.heap.size w6 w'), p.w.cell? ⟨w.heap.size, 36, none⟩ = some (.slice (some ⟨b, o', none⟩) m c) := fun p => (p.h.cell (World.block_lt_of_cell? _ _ q36)).trans q36
        have r0 : ∀ p : Cls (fun w' => Below w6.heap.size w6 w'), p.w.cell? ⟨w5.heap.size, 0, none⟩ = some (.int .i64 (i : Int)) := fun p => (p.h.cell (World.block_lt_of_cell? _ _ g0)).trans g0
        have r1 : ∀ p : Cls (fun w' => Below w6.heap.size w6 w'), p.w.cell? ⟨w5.heap.size, 1, none⟩ = some (.slice (some ⟨ob, 0, none⟩) (plen' ps 0) (plen' ps 0)) := fun p => (p.h.cell (World.block_lt_of_cell? _ _ g1)).trans g1
        have HSQ := hid (fun (p : Cls fun w' => Below w6.heap.size w6 w') => HSH.out p.w (HV6.out.below p.h) ob (HBS6.out.below p.h))
        have HRQ := hid (fun (p : Cls fun w' => Below w6.heap.size w6 w') => range_below HRG6.out p.h)
        have e1 := fun wx => HEQ.out wx
        clear c0 c2 c3 c36 q36 g0 g1 hM6 hb56
        go_upto_region 12 with fail
        change Code.wp _ _ _ _ (w5.alloc (.cells #[.int .i64 (i : Int), .slice (some ⟨ob, 0, none⟩) (plen' ps 0) (plen' ps 0)] 44))
        rw [← hw6]
        clear hw6
        refine wp_region_class_lit (G := fun w' => Below w6.heap.size w6 w') (by kernel_rfl) (by kernel_rfl) (bel_drewN (Below.refl _ _) 1) ?_
        iterate 12 (go_big_quiet_step ((go_at_call 33; exact Calls.cls (HSQ.out _))))
        refine wpQuiet_load_clsW (by rfl) 24 (.tmp 61) (by rfl) b (o' + i * 32) (by rfl) (u8s Z) _ HRQ.out Tryd.underlying24 rfl HIFZ.out ?_
        rintro _ rfl
        try simp only [Act.put, List.setIfInBounds_toArray, List.set_cons_zero, List.set_cons_succ]
        repeat (go_big_quiet_step ((go_at_call 33; exact Calls.cls (HSQ.out _))))
        refine wpQuiet_nil ?_
        rintro _ ⟨⟨wp, hwp⟩, rfl⟩
        have HKP := hid (HK6.out.trans (Kept.of_below hwp))
        have HFP := hid (fld_belowA HBU6.out hwp)
        have HBSP := hid (HBS6.out.below hwp)
        obtain ⟨d0, d1, f0, f1⟩ := piece_freeA ((hwp.block _ (lt_of_heap HZ6.out)).trans HZ6.out)
        obtain ⟨g0, g1, -, -⟩ := piece_freeA ((hwp.block _ (lt_of_heap HQB.out)).trans HQB.out)
        clear hwp e1 HSQ HRQ hne r36 r0 r1
        go_wp2
        first
          | exact bodyPost_ret (v := .tuple #[.agg #[.int .i64 0, .slice none 0 0], .int .i64 20]) (by simp [results, Tryd.results16, go_sem, d0, d1]) rfl ⟨by rw [HRL.out, HRI.out, HQ.out]; exact rgnRes_none _ _, fld_setA (fld_setA HFP.out (by omega) _ _) (by omega) _ _, ((HKP.out.setNew (p := ⟨w.heap.size + 1, 0, none⟩) (by simp) _).setNew (p := ⟨w.heap.size + 1, 1, none⟩) (by simp) _)⟩
          | exact bodyPost_ret (v := .tuple #[.agg #[.int .i64 (i : Int), .slice (some ⟨ob, 0, none⟩) (plen' ps 0) (plen' ps 0)], .int .i64 0]) (by simp [results, Tryd.results16, go_sem, d0, d1]) rfl ⟨by rw [HRL.out, HRI.out, HQ.out]; exact rgnRes_some HPL.out ((HBSP.out.set_offR (b := w.heap.size + 1) hobz 0 _).set_offR (b := w.heap.size + 1) hobz 1 _), fld_setA (fld_setA HFP.out (by omega) _ _) (by omega) _ _, ((HKP.out.setNew (p := ⟨w.heap.size + 1, 0, none⟩) (by simp) _).setNew (p := ⟨w.heap.size + 1, 1, none⟩) (by simp) _)⟩
end Go.Proofs.YtahnihihfheegaaDoor

namespace Go.Proofs.YtahnihihfheegaaDoor
open Go Go.RowKit
set_option linter.unusedVariables false

theorem alloc_pcS (w : World) : (Instr.alloc 44 true (.tuple #[])).run Tryd.prog w = .ok (.pointer (some ⟨w.heap.size, 0, none⟩)) (w.alloc (.cells #[.int .i64 0, .slice none 0 0] 44)) := by kernel_rfl
theorem step_mkp {ops : Array Oper} {o : Oper} {a : Act} {w : World} {K : Act → World → Prop} {Q : Exit → Act → World → Prop} {E : Prop} (hgd : o.guard = none) (ho : o.op = .alloc 44)
    (h : ∀ mb w', mb = w.heap.size → w'.heap[mb]? = some (.cells #[.int .i64 0, .slice none 0 0] 44 (0, 0)) → Below w.heap.size w w' → mb < w'.heap.size → K (a.put o.dst (.pointer (some ⟨mb, 0, none⟩))) w') : if Region.wanted o (yielded ops a.tmps) = true then Oper.wp Tryd.prog o a w K Q else E := by
  have h1 := alloc_pcS w
  refine step_value (P := Tryd.prog) hgd (v := .pointer (some ⟨w.heap.size, 0, none⟩)) (w' := w.alloc (.cells #[.int .i64 0, .slice none 0 0] 44)) ?_ (h w.heap.size _ rfl (heap_new _ _) ((Below.refl _ _).alloc (Nat.le_refl _) _) (by simp))
  unfold execOp
  simp only [ho]
  simp [h1]
/-- bytes do not lie in a piece's block -/
theorem bs_keptP {w w' : World} {v : Value} {l : List Nat} {pb : Nat} {x : Int} {y : Option Addr} {n c : Nat} {T : TypeId} (h : Bs w v l) (hp : w.heap[pb]? = some (.cells #[.int .i64 x, .slice y n c] T (0, 0))) (k : Kept pb w w') : Bs w' v l := by
  obtain ⟨a, c', h1, h2, h3⟩ := h
  refine ⟨a, c', h1, h2, fun hl => ?_⟩
  obtain ⟨b, o, ha, hc⟩ := h3 hl
  refine ⟨b, o, ha, fun i hi => ?_⟩
  have hci := hc i hi
  have hne : b ≠ pb := by
    rintro rfl
    have h5 := cell_of_heap hp (o + i)
    rw [hci] at h5
    rcases ho : o + i with _ | _ | j
    · rw [ho] at h5; cases h5
    · rw [ho] at h5; cases h5
    · rw [ho] at h5; simp at h5
  exact (World.cell?_of_block (a := ⟨b, o + i, none⟩) (k.block b (World.block_lt_of_cell? _ _ hci) hne)).trans hci
theorem pieceL_fn {qs ps : List (Int × Sl)} (f1 : pidx qs = pidx ps) (f2 : plen' qs = plen' ps) (k : Int) (D : Nat → List Nat) (I : Int) : pieceL k qs D I = pieceL k ps D I := by
  unfold pieceL
  rw [places_fn f1, f2]
/-- a copy's answers are those of the original -/
theorem rgn_fns {w wr : World} {v : Value} {n : Nat} {ps qs : List (Int × Sl)} {D : Nat → List Nat} (h : MineI w wr v n ps qs D) (hn : n = ps.length) (k nn t s : Int) (m : Nat) (Dm : List (List Nat)) (I : Int) :
    regE k nn t s m Dm qs D n I = regE k nn t s m Dm ps D n I ∧ regI k nn t s m Dm qs D n I = regI k nn t s m Dm ps D n I ∧ regL k nn t s m Dm qs D n I = regL k nn t s m Dm ps D n I := by
  obtain ⟨f1, f2⟩ := h.fns hn
  have f3 := pieceL_fn f1 f2 k D I
  have f4 : regE k nn t s m Dm qs D n I = regE k nn t s m Dm ps D n I := by unfold regE; rw [f1, f3]
  exact ⟨f4, by unfold regI; rw [f4], by unfold regL; rw [f4, f3]⟩
theorem piece_allS (x : Int) (a : Option Addr) (n c : Nat) : (#[.int .i64 x, .slice a n c] : Array Value).all (·.oneCell') = true := by
  rw [Array.all_eq_true]
  intro i hi
  match i, hi with
  | 0, _ => rfl
  | 1, _ => rfl
end Go.Proofs.YtahnihihfheegaaDoor

namespace Go.Proofs.YtahnihihfheegaaDoor
open Go Go.RowKit
set_option linter.unusedVariables false

set_option maxRecDepth 100000 in
set_option maxHeartbeats 8000000 in
theorem rrg_any (w : World) (R : Rnds w) (k n t s : Int) (od : List Nat) (a : Option Addr) (m c : Nat) (D : List (List Nat)) (ho : od.length = 32) (hD : Dgs w a m c D) (pa : Option Addr) (pn pc : Nat) (ps : List (Int × Sl)) (Dd : Nat → List Nat) (hp : Ps w (.slice pa pn pc) ps) (hd : PDat w ps Dd) (hpn : pn ≤ 100000) (hpc : pn ≤ pc) (I : Int) :
    Calls Tryd.prog 17 #[.agg (mcells k n t s od (.slice a m c)).toArray, .slice pa pn pc, .int .i64 I] w fun e w' => RgnRes (regE k n t s m D ps Dd pn I) (regI k n t s m D ps Dd pn I) (regL k n t s m D ps Dd pn I) e w' ∧ Below w.heap.size w w' := by
  obtain ⟨w0, hw0⟩ : ∃ y, y = (w.alloc (.cells (mcells k n t s od (.slice a m c)).toArray 27)).alloc (.cells #[.int .i64 0, .slice none 0 0] 44) := ⟨_, rfl⟩
  have hs1 : (w.alloc (.cells (mcells k n t s od (.slice a m c)).toArray 27)).heap.size = w.heap.size + 1 := by simp
  have HB0 := hid (show Below w.heap.size w w0 from by rw [hw0]; exact ((Below.refl _ _).alloc (Nat.le_refl _) _).alloc (by simp) _)
  have HM := hid (show ManAt w0 w.heap.size k n t s od (.slice a m c) from by rw [hw0]; exact (heap_alloc_old _ _ (by simp)).trans (heap_new _ _))
  have HZ := hid (show w0.heap[w.heap.size + 1]? = some (.cells #[.int .i64 0, .slice none 0 0] 44 (0, 0)) from by rw [hw0, ← hs1]; exact heap_new _ _)
  have HIF := hid (show (Tryd.prog.info? 27).map (·.size) = some (mcells k n t s od (.slice a m c)).length from by rw [mcells_length _ _ _ _ _ _ ho]; kernel_rfl)
  have HCM := hid (fun wx => valid_any k n t s od a m c ho wx)
  have HCK := hid (fun (wx : World) (b : Below w.heap.size w wx) => rkp_any wx (R.below b) k n t s od a m c D ho (hD.below b) pa pn pc ps Dd (hp.below b) (hd.below b) hpn)
  have HRA := hid (range_of_heapI HM.out)
  have HO := hid ho
  have HV := hid R
  have HDD := hid hD
  have HPD := hid hd
  have HPP := hid hp
  have HN := hid (show pn = ps.length from by obtain ⟨_, _, h, _⟩ := hp; simp at h; exact h.2.1)
  
  
  clear hs1 ho R hD hd hp
  cases hv : manB k n t s m with
  | false => as_aux_lemma =>
    have HR1 := hid (show regE k n t s m D ps Dd pn I = 2 from by unfold regE; rw [hv]; rfl)
    have HR2 := hid (show regL k n t s m D ps Dd pn I = [] from by unfold regL; rw [HR1.out]; rfl)
    have HR3' := hid (show regI k n t s m D ps Dd pn I = 0 from by unfold regI; rw [HR1.out]; rfl)
    rw [hv] at HCM
    clear hv HCK
    go_enter Tryd.func17, Tryd.ntmps17
    go_upto_region 1 with fail
    change Code.wp _ _ _ _ ((w.alloc (.cells (mcells k n t s od (.slice a m c)).toArray 27)).alloc (.cells #[.int .i64 0, .slice none 0 0] 44))
    rw [← hw0]
    clear hw0
    go_wp2_with (refine wpList_load_mid (by rfl) 27 (.tmp 3) (by rfl) w.heap.size 0 (by rfl) (mcells k n t s od (.slice a m c)) _ HRA.out Tryd.underlying27 rfl HIF.out ?_)
    refine (HCM.out w0).mono ?_
    rintro e w3 ⟨rfl, hb3⟩
    have HB3 := hid (HB0.out.trans (hb3.mono HB0.out.size))
    have HR3 := hid (range_below HRA.out hb3)
    have HM3 := hid (show ManAt w3 w.heap.size k n t s od (.slice a m c) from (hb3.block _ (lt_of_heap HM.out)).trans HM.out)
    have HZ3 := hid ((hb3.block _ (lt_of_heap HZ.out)).trans HZ.out)
    clear hb3
    obtain ⟨c0, -, c2, c3, -⟩ := HM3.out.c HO.out
    obtain ⟨d0, d1, f0, f1⟩ := piece_freeA HZ3.out
    go_wp2
    exact bodyPost_ret (v := .tuple #[.agg #[.int .i64 0, .slice none 0 0], .int .i64 2]) (by simp [results, Tryd.results17, go_sem, d0, d1]) rfl ⟨by rw [HR1.out, HR3'.out, HR2.out]; exact rgnRes_none _ _, ((HB3.out.setCell (p := ⟨w.heap.size + 1, 0, none⟩) (by simp) _).setCell (p := ⟨w.heap.size + 1, 1, none⟩) (by simp) _)⟩
  | true =>
    rw [hv] at HCM
    have hnum : 1 ≤ k ∧ k ≤ n ∧ n ≤ t ∧ t ≤ 255 ∧ 0 ≤ s ∧ s ≤ 8192 ∧ (m : Int) = t := by
      have hok := hv
      unfold manB vnB vcB at hok
      simp only [Bool.and_eq_true, decide_eq_true_eq] at hok
      omega
    have HU := hid (show regE k n t s m D ps Dd pn I = (if I < 0 ∨ t ≤ I then 2 else if dAll k (pidx ps) (fun i => cpE k n t s m D (pidx ps i) (Dd i)) pn = 0 then (if dig shaRound shaStart ([hi8 I, lo8 I] ++ pieceL k ps Dd I) = D.getD I.toNat [] then 0 else 20) else dAll k (pidx ps) (fun i => cpE k n t s m D (pidx ps i) (Dd i)) pn) from by unfold regE; rw [if_pos hv])
    clear hv
    by_cases hI : I < 0 ∨ t ≤ I
    · have HR1 := hid (show regE k n t s m D ps Dd pn I = 2 from by rw [HU.out, if_pos hI])
      have HR2 := hid (show regL k n t s m D ps Dd pn I = [] from by unfold regL; rw [HR1.out]; rfl)
      have HR3' := hid (show regI k n t s m D ps Dd pn I = 0 from by unfold regI; rw [HR1.out]; rfl)
      clear HU HCK
      by_cases h0 : I < 0
      · as_aux_lemma =>
        clear hI
        go_enter Tryd.func17, Tryd.ntmps17
        go_upto_region 1 with fail
        change Code.wp _ _ _ _ ((w.alloc (.cells (mcells k n t s od (.slice a m c)).toArray 27)).alloc (.cells #[.int .i64 0, .slice none 0 0] 44))
        rw [← hw0]
        clear hw0
        go_wp2_with (refine wpList_load_mid (by rfl) 27 (.tmp 3) (by rfl) w.heap.size 0 (by rfl) (mcells k n t s od (.slice a m c)) _ HRA.out Tryd.underlying27 rfl HIF.out ?_)
        refine (HCM.out w0).mono ?_
        rintro e w3 ⟨rfl, hb3⟩
        have HB3 := hid (HB0.out.trans (hb3.mono HB0.out.size))
        have HR3 := hid (range_below HRA.out hb3)
        have HM3 := hid (show ManAt w3 w.heap.size k n t s od (.slice a m c) from (hb3.block _ (lt_of_heap HM.out)).trans HM.out)
        have HZ3 := hid ((hb3.block _ (lt_of_heap HZ.out)).trans HZ.out)
        clear hb3
        obtain ⟨c0, -, c2, c3, -⟩ := HM3.out.c HO.out
        obtain ⟨d0, d1, f0, f1⟩ := piece_freeA HZ3.out
        go_wp2
        exact bodyPost_ret (v := .tuple #[.agg #[.int .i64 0, .slice none 0 0], .int .i64 2]) (by simp [results, Tryd.results17, go_sem, d0, d1]) rfl ⟨by rw [HR1.out, HR3'.out, HR2.out]; exact rgnRes_none _ _, ((HB3.out.setCell (p := ⟨w.heap.size + 1, 0, none⟩) (by simp) _).setCell (p := ⟨w.heap.size + 1, 1, none⟩) (by simp) _)⟩
      · as_aux_lemma =>
        have h1 : t ≤ I := by omega
        clear hI
        go_enter Tryd.func17, Tryd.ntmps17
        go_upto_region 1 with fail
        change Code.wp _ _ _ _ ((w.alloc (.cells (mcells k n t s od (.slice a m c)).toArray 27)).alloc (.cells #[.int .i64 0, .slice none 0 0] 44))
        rw [← hw0]
        clear hw0
        go_wp2_with (refine wpList_load_mid (by rfl) 27 (.tmp 3) (by rfl) w.heap.size 0 (by rfl) (mcells k n t s od (.slice a m c)) _ HRA.out Tryd.underlying27 rfl HIF.out ?_)
        refine (HCM.out w0).mono ?_
        rintro e w3 ⟨rfl, hb3⟩
        have HB3 := hid (HB0.out.trans (hb3.mono HB0.out.size))
        have HR3 := hid (range_below HRA.out hb3)
        have HM3 := hid (show ManAt w3 w.heap.size k n t s od (.slice a m c) from (hb3.block _ (lt_of_heap HM.out)).trans HM.out)
        have HZ3 := hid ((hb3.block _ (lt_of_heap HZ.out)).trans HZ.out)
        clear hb3
        obtain ⟨c0, -, c2, c3, -⟩ := HM3.out.c HO.out
        obtain ⟨d0, d1, f0, f1⟩ := piece_freeA HZ3.out
        go_wp2
        exact bodyPost_ret (v := .tuple #[.agg #[.int .i64 0, .slice none 0 0], .int .i64 2]) (by simp [results, Tryd.results17, go_sem, d0, d1]) rfl ⟨by rw [HR1.out, HR3'.out, HR2.out]; exact rgnRes_none _ _, ((HB3.out.setCell (p := ⟨w.heap.size + 1, 0, none⟩) (by simp) _).setCell (p := ⟨w.heap.size + 1, 1, none⟩) (by simp) _)⟩
    have h0 : ¬ I < 0 := fun h => hI (.inl h)
    have h1 : ¬ t ≤ I := fun h => hI (.inr h)
    by_cases hda : dAll k (pidx ps) (fun i => cpE k n t s m D (pidx ps i) (Dd i)) pn = 0
    case neg => as_aux_lemma =>
      have HR1 := hid (show regE k n t s m D ps Dd pn I = dAll k (pidx ps) (fun i => cpE k n t s m D (pidx ps i) (Dd i)) pn from by rw [HU.out, if_neg hI, if_neg hda])
      have HR2 := hid (show regL k n t s m D ps Dd pn I = [] from by unfold regL; rw [HR1.out, if_neg hda])
      have HR3' := hid (show regI k n t s m D ps Dd pn I = 0 from by unfold regI; rw [HR1.out, if_neg hda])
      have b1 : (dAll k (pidx ps) (fun i => cpE k n t s m D (pidx ps i) (Dd i)) pn != 0) = true := by simpa using hda
      clear HU hda hI
      generalize dAll k (pidx ps) (fun i => cpE k n t s m D (pidx ps i) (Dd i)) pn = E at HR1 b1 HCK
      go_enter Tryd.func17, Tryd.ntmps17
      go_upto_region 1 with fail
      change Code.wp _ _ _ _ ((w.alloc (.cells (mcells k n t s od (.slice a m c)).toArray 27)).alloc (.cells #[.int .i64 0, .slice none 0 0] 44))
      rw [← hw0]
      clear hw0
      go_wp2_with (refine wpList_load_mid (by rfl) 27 (.tmp 3) (by rfl) w.heap.size 0 (by rfl) (mcells k n t s od (.slice a m c)) _ HRA.out Tryd.underlying27 rfl HIF.out ?_)
      refine (HCM.out w0).mono ?_
      rintro e w3 ⟨rfl, hb3⟩
      have HB3 := hid (HB0.out.trans (hb3.mono HB0.out.size))
      have HR3 := hid (range_below HRA.out hb3)
      have HM3 := hid (show ManAt w3 w.heap.size k n t s od (.slice a m c) from (hb3.block _ (lt_of_heap HM.out)).trans HM.out)
      have HZ3 := hid ((hb3.block _ (lt_of_heap HZ.out)).trans HZ.out)
      clear hb3
      obtain ⟨c0, -, c2, c3, -⟩ := HM3.out.c HO.out
      go_wp2_with (refine wpList_load_mid (by rfl) 27 (.tmp 3) (by rfl) w.heap.size 0 (by rfl) (mcells k n t s od (.slice a m c)) _ HR3.out Tryd.underlying27 rfl HIF.out ?_)
      refine (HCK.out w3 HB3.out).mono ?_
      rintro e w4 ⟨rfl, hb4⟩
      have HB4 := hid (HB3.out.trans (hb4.mono HB3.out.size))
      have HZ4 := hid ((hb4.block _ (lt_of_heap HZ3.out)).trans HZ3.out)
      clear hb4 c0 c2 c3
      obtain ⟨d0, d1, f0, f1⟩ := piece_freeA HZ4.out
      go_wp2
      exact bodyPost_ret (v := .tuple #[.agg #[.int .i64 0, .slice none 0 0], .int .i64 E]) (by simp [results, Tryd.results17, go_sem, d0, d1]) rfl ⟨by rw [HR1.out, HR3'.out, HR2.out]; exact rgnRes_none _ _, ((HB4.out.setCell (p := ⟨w.heap.size + 1, 0, none⟩) (by simp) _).setCell (p := ⟨w.heap.size + 1, 1, none⟩) (by simp) _)⟩
    case pos =>
      obtain ⟨hz0, hkp, hlen⟩ := rs_right (t := t) HPD.out HN.out hda
      have hz : chkAll k t (pidx ps) (alikeE ps) pn = 0 := by
        obtain ⟨g1, _⟩ := dAll_zero hda
        refine chk_of (fun i hi => ?_) hkp
        obtain ⟨g2, g3⟩ := dTo_all g1 i hi
        obtain ⟨_, e1, e2, _, _, _⟩ := cp_zero g2
        refine ⟨e1, e2, g3, ?_⟩
        unfold alikeE alikeL
        rw [(hlen i hi).2, (hlen 0 (by omega)).2]
        have := plen_le k.toNat s.toNat (by omega)
        rw [if_neg (by omega), if_pos rfl]
      rw [hda] at HCK
      have HPL := hid (show (pieceL k ps Dd I).length = plen' ps 0 from by unfold pieceL; exact mixL_length _ _ _ _)
      have hp0 : plen' ps 0 ≤ 8192 := by rw [(hlen 0 (by omega)).2]; have := plen_le k.toNat s.toNat (by omega); omega
      have HDC := hid (fun (wx : World) (b : Below w.heap.size w wx) => Again_okN k.toNat t.toNat I.toNat pa pn pc ps Dd (by omega) (by omega) (by omega) (by omega) hpn hpc wx (HPP.out.below b) (fun i h => (HPD.out i h).1.below b) (by rw [show ((k.toNat : Nat) : Int) = k from by omega, show ((t.toNat : Nat) : Int) = t from by omega]; exact hz))
      rw [show ((k.toNat : Nat) : Int) = k from by omega, show ((t.toNat : Nat) : Int) = t from by omega, show ((I.toNat : Nat) : Int) = I from by omega] at HDC
      have HUE := hid (show regE k n t s m D ps Dd pn I = (if dig shaRound shaStart ([hi8 I, lo8 I] ++ pieceL k ps Dd I) = D.getD I.toNat [] then 0 else 20) from by rw [HU.out, if_neg hI, if_pos hda])
      have HRL := hid (show regL k n t s m D ps Dd pn I = if regE k n t s m D ps Dd pn I = 0 then pieceL k ps Dd I else [] from rfl)
      have HRI := hid (show regI k n t s m D ps Dd pn I = if regE k n t s m D ps Dd pn I = 0 then I else 0 from rfl)
      have HDC2 := hid (fun (wx : World) (b : Below w.heap.size w wx) => (HDC.out wx b).mono (fun e w' h => (show PieceResN wx.heap.size I (plen' ps 0) (pieceL k ps Dd I) e w' ∧ Below wx.heap.size wx w' from h)))
      obtain ⟨i, hi⟩ : ∃ i : Nat, I = (i : Int) := ⟨I.toNat, by omega⟩
      have him : i < D.length := by have := HDD.out.len; omega
      obtain ⟨b, o', ha, hrg⟩ : ∃ b o', a = some ⟨b, o', none⟩ ∧ ∀ j, j < D.length → w.rangeAt b (o' + j * 32) (u8s (D.getD j [])) := by
        obtain ⟨a', c', h1, h2, h3⟩ := HDD.out.at_
        obtain ⟨b, o', e, h4⟩ := h3 (fun h => by rw [h] at him; simp at him)
        simp only [Value.slice.injEq] at h1
        exact ⟨b, o', h1.1.trans e, h4⟩
      have hl32 : (D.getD i []).length = 32 := by
        rw [List.getD_eq_getElem?_getD, List.getElem?_eq_getElem him]
        exact HDD.out.l32 _ (List.getElem_mem _)
      have HRG := hid (hrg i him)
      obtain ⟨O, hO⟩ : ∃ O, O = pieceL k ps Dd I := ⟨_, rfl⟩
      rw [← hO] at HUE HPL HDC2 HRL
      obtain ⟨Y, hY⟩ : ∃ Y, Y = dig shaRound shaStart ([hi8 I, lo8 I] ++ O) := ⟨_, rfl⟩
      have hY32 : Y.length = 32 := by rw [hY]; exact dig_length _ _ _
      have HSH := hid (fun (wx : World) (V : Rnds wx) (ob : Nat) (h : Bs wx (.slice (some ⟨ob, 0, none⟩) (plen' ps 0) (plen' ps 0)) O) => refd_all I (some ⟨ob, 0, none⟩) (plen' ps 0) (plen' ps 0) O wx V h (Nat.le_refl _) (fun h => by cases h) (by omega))
      rw [← hY] at HSH HUE
      obtain ⟨Z, hZ⟩ : ∃ Z, Z = D.getD i [] := ⟨_, rfl⟩
      rw [← hZ] at HRG hl32
      have HEQ := hid (fun wx => eql_any Y Z hY32 hl32 wx)
      have HIFZ := hid (show (Tryd.prog.info? 24).map (·.size) = some (u8s Z).length from by simp only [u8s, List.length_map, hl32]; kernel_rfl)
      have hq0 : ∀ (q : Bool), q = decide (Y = Z) → regE k n t s m D ps Dd pn I = if q then 0 else 20 := by
        rintro q rfl
        rw [HUE.out, hZ, hi]
        simp only [Int.toNat_natCast]
        by_cases h : Y = D.getD i []
        · rw [if_pos h, decide_eq_true h]; rfl
        · rw [if_neg h, decide_eq_false h]; rfl
      generalize hq : decide (Y = Z) = q at *
      have HQ := hid (hq0 q rfl)
      have hmi : (i : Int) < (m : Int) := by have := HDD.out.len; omega
      have hi0 : (0 : Int) ≤ (i : Int) := by omega
      clear hq0 hq hY hY32 hO HUE HDC hz hz0 hkp hlen hda HU hrg him hZ hl32 hI
      subst hi
      subst ha
      cases q
      all_goals as_aux_lemma =>
        go_enter Tryd.func17, Tryd.ntmps17
        go_upto_region 1 with fail
        change Code.wp _ _ _ _ ((w.alloc (.cells (mcells k n t s od (.slice (some ⟨b, o', none⟩) m c)).toArray 27)).alloc (.cells #[.int .i64 0, .slice none 0 0] 44))
        rw [← hw0]
        clear hw0
        go_wp2_with (refine wpList_load_mid (by rfl) 27 (.tmp 3) (by rfl) w.heap.size 0 (by rfl) (mcells k n t s od (.slice (some ⟨b, o', none⟩) m c)) _ HRA.out Tryd.underlying27 rfl HIF.out ?_)
        refine (HCM.out w0).mono ?_
        rintro e w3 ⟨rfl, hb3⟩
        have HB3 := hid (HB0.out.trans (hb3.mono HB0.out.size))
        have HR3 := hid (range_below HRA.out hb3)
        have HM3 := hid (show ManAt w3 w.heap.size k n t s od (.slice (some ⟨b, o', none⟩) m c) from (hb3.block _ (lt_of_heap HM.out)).trans HM.out)
        have HZ3 := hid ((hb3.block _ (lt_of_heap HZ.out)).trans HZ.out)
        clear hb3
        obtain ⟨c0, -, c2, c3, -⟩ := HM3.out.c HO.out
        go_wp2_with (refine wpList_load_mid (by rfl) 27 (.tmp 3) (by rfl) w.heap.size 0 (by rfl) (mcells k n t s od (.slice (some ⟨b, o', none⟩) m c)) _ HR3.out Tryd.underlying27 rfl HIF.out ?_)
        refine (HCK.out w3 HB3.out).mono ?_
        rintro e w4 ⟨rfl, hb4⟩
        have HB4 := hid (HB3.out.trans (hb4.mono HB3.out.size))
        have HM4 := hid (show ManAt w4 w.heap.size k n t s od (.slice (some ⟨b, o', none⟩) m c) from (hb4.block _ (lt_of_heap HM3.out)).trans HM3.out)
        have HZ4 := hid ((hb4.block _ (lt_of_heap HZ3.out)).trans HZ3.out)
        clear hb4 c0 c2 c3
        obtain ⟨c0, -, c2, c3, c36⟩ := HM4.out.c HO.out
        go_wp2_with fail
        refine (HDC2.out w4 HB4.out).mono ?_
        rintro e w5 ⟨⟨ob, hob5, rfl, hbs5⟩, hk5⟩
        have HK5 := hid (HB4.out.trans (hk5.mono HB4.out.size))
        have hobz : ob ≠ w.heap.size + 1 := by have := lt_of_heap HZ4.out; omega
        have HBS5 := hid hbs5
        have HM5 := hid (show ManAt w5 w.heap.size k n t s od (.slice (some ⟨b, o', none⟩) m c) from (hk5.block _ (lt_of_heap HM4.out)).trans HM4.out)
        have HZ5 := hid ((hk5.block _ (lt_of_heap HZ4.out)).trans HZ4.out)
        have HV5 := hid (HV.out.below HK5.out)
        have HRG5 := hid (range_below HRG.out HK5.out)
        clear hk5 hbs5
        obtain ⟨w6, hw6⟩ : ∃ y, y = w5.alloc (.cells #[.int .i64 (i : Int), .slice (some ⟨ob, 0, none⟩) (plen' ps 0) (plen' ps 0)] 44) := ⟨_, rfl⟩
        have hb56 : Below w5.heap.size w5 w6 := by rw [hw6]; exact (Below.refl _ _).alloc (Nat.le_refl _) _
        have HQB := hid (show w6.heap[w5.heap.size]? = some (.cells #[.int .i64 (i : Int), .slice (some ⟨ob, 0, none⟩) (plen' ps 0) (plen' ps 0)] 44 (0, 0)) from by rw [hw6]; exact heap_new _ _)
        have HK6 := hid (HK5.out.trans (hb56.mono HK5.out.size))
        have HBS6 := hid (HBS5.out.below hb56)
        have HZ6 := hid ((hb56.block _ (lt_of_heap HZ5.out)).trans HZ5.out)
        have hM6 : ManAt w6 w.heap.size k n t s od (.slice (some ⟨b, o', none⟩) m c) := (hb56.block _ (lt_of_heap HM5.out)).trans HM5.out
        have HV6 := hid (HV5.out.below hb56)
        have HRG6 := hid (range_below HRG5.out hb56)
        skip
        have q36 := (hM6.c HO.out).2.2.2.2
        obtain ⟨g0, g1, -, -⟩ := piece_freeA HQB.out
        have hne : Nonempty (Cls fun w' => Below w6.heap.size w6 w') := ⟨⟨w6, Below.refl _ _⟩⟩
        have r36 : ∀ p : Cls (fun w' => Below w6.heap.size w6 w'), p.w.cell? ⟨w.heap.size, 36, none⟩ = some (.slice (some ⟨b, o', none⟩) m c) := fun p => (p.h.cell (World.block_lt_of_cell? _ _ q36)).trans q36
        have r0 : ∀ p : Cls (fun w' => Below w6.heap.size w6 w'), p.w.cell? ⟨w5.heap.size, 0, none⟩ = some (.int .i64 (i : Int)) := fun p => (p.h.cell (World.block_lt_of_cell? _ _ g0)).trans g0
        have r1 : ∀ p : Cls (fun w' => Below w6.heap.size w6 w'), p.w.cell? ⟨w5.heap.size, 1, none⟩ = some (.slice (some ⟨ob, 0, none⟩) (plen' ps 0) (plen' ps 0)) := fun p => (p.h.cell (World.block_lt_of_cell? _ _ g1)).trans g1
        have HSQ := hid (fun (p : Cls fun w' => Below w6.heap.size w6 w') => HSH.out p.w (HV6.out.below p.h) ob (HBS6.out.below p.h))
        have HRQ := hid (fun (p : Cls fun w' => Below w6.heap.size w6 w') => range_below HRG6.out p.h)
        have e1 := fun wx => HEQ.out wx
        clear c0 c2 c3 c36 q36 g0 g1 hM6 hb56
        go_upto_region 7 with fail
        change Code.wp _ _ _ _ (w5.alloc (.cells #[.int .i64 (i : Int), .slice (some ⟨ob, 0, none⟩) (plen' ps 0) (plen' ps 0)] 44))
        rw [← hw6]
        clear hw6
        refine wp_region_class_lit (G := fun w' => Below w6.heap.size w6 w') (by kernel_rfl) (by kernel_rfl) (bel_drewN (Below.refl _ _) 1) ?_
        iterate 8 (go_big_quiet_step ((go_at_call 35; exact Calls.cls (HSQ.out _))))
        refine wpQuiet_load_clsW (by rfl) 24 (.tmp 49) (by rfl) b (o' + i * 32) (by rfl) (u8s Z) _ HRQ.out Tryd.underlying24 rfl HIFZ.out ?_
        rintro _ rfl
        try simp only [Act.put, List.setIfInBounds_toArray, List.set_cons_zero, List.set_cons_succ]
        repeat (go_big_quiet_step ((go_at_call 35; exact Calls.cls (HSQ.out _))))
        refine wpQuiet_nil ?_
        rintro _ ⟨⟨wp, hwp⟩, rfl⟩
        have HKP := hid (HK6.out.trans (hwp.mono HK6.out.size))
        skip
        have HBSP := hid (HBS6.out.below hwp)
        obtain ⟨d0, d1, f0, f1⟩ := piece_freeA ((hwp.block _ (lt_of_heap HZ6.out)).trans HZ6.out)
        obtain ⟨g0, g1, -, -⟩ := piece_freeA ((hwp.block _ (lt_of_heap HQB.out)).trans HQB.out)
        clear hwp e1 HSQ HRQ hne r36 r0 r1
        go_wp2
        first
          | exact bodyPost_ret (v := .tuple #[.agg #[.int .i64 0, .slice none 0 0], .int .i64 20]) (by simp [results, Tryd.results17, go_sem, d0, d1]) rfl ⟨by rw [HRL.out, HRI.out, HQ.out]; exact rgnRes_none _ _, ((HKP.out.setCell (p := ⟨w.heap.size + 1, 0, none⟩) (by simp) _).setCell (p := ⟨w.heap.size + 1, 1, none⟩) (by simp) _)⟩
          | exact bodyPost_ret (v := .tuple #[.agg #[.int .i64 (i : Int), .slice (some ⟨ob, 0, none⟩) (plen' ps 0) (plen' ps 0)], .int .i64 0]) (by simp [results, Tryd.results17, go_sem, d0, d1]) rfl ⟨by rw [HRL.out, HRI.out, HQ.out]; exact rgnRes_some HPL.out ((HBSP.out.set_offR (b := w.heap.size + 1) hobz 0 _).set_offR (b := w.heap.size + 1) hobz 1 _), ((HKP.out.setCell (p := ⟨w.heap.size + 1, 0, none⟩) (by simp) _).setCell (p := ⟨w.heap.size + 1, 1, none⟩) (by simp) _)⟩
end Go.Proofs.YtahnihihfheegaaDoor

namespace Go.Proofs.YtahnihihfheegaaDoor
open Go Go.RowKit
set_option linter.unusedVariables false

theorem run_build0 (w : World) : (Instr.buildSlice 22 0 #[]).run Tryd.prog w = .ok (.slice (some ⟨w.heap.size, 0, none⟩) 0 0) (w.alloc (.cells #[] 5)) := by kernel_rfl
theorem step_build0 {ops : Array Oper} {o : Oper} {a : Act} {w : World} {K : Act → World → Prop} {Q : Exit → Act → World → Prop} {E : Prop} (hgd : o.guard = none) (ho : o.op = .buildSlice 22 0 #[])
    (h : ∀ g w', g = w.heap.size → w'.heap[g]? = some (.cells #[] 5 (0, 0)) → Below w.heap.size w w' → g < w'.heap.size → K (a.put o.dst (.slice (some ⟨g, 0, none⟩) 0 0)) w') : if Region.wanted o (yielded ops a.tmps) = true then Oper.wp Tryd.prog o a w K Q else E := by
  refine step_value (P := Tryd.prog) hgd (v := .slice (some ⟨w.heap.size, 0, none⟩) 0 0) (w' := w.alloc (.cells #[] 5)) ?_ (h w.heap.size _ rfl (heap_new _ _) ((Below.refl _ _).alloc (Nat.le_refl _) _) (by simp))
  have h1 := run_build0 w
  unfold execOp
  simp only [ho]
  simp [h1]
theorem own_emptyM {w : World} {base g : Nat} (h : w.heap[g]? = some (.cells #[] 5 (0, 0))) (hb : base ≤ g) : w.ownsRow base 5 1 (.slice (some ⟨g, 0, none⟩) 0 0) 0 [] :=
  ⟨rfl, .inr ⟨g, 0, #[], rfl, hb, h, Nat.le_refl _, Nat.zero_le _, rfl, rfl⟩⟩

/-- what a call of Make and the store of its manifest leave -/
structure MdR (fb k n t m : Nat) (l : List Nat) (mb g gd : Nat) (bf : Nat → Nat) (w1 w : World) : Prop where
  man : ManAt w mb k n t m (dig shaRound shaStart l) (.slice (some ⟨gd, 0, none⟩) t t)
  pcs : Pcs w g w1.heap.size t (plen k m) bf (encP l k (plen k m))
  rng : ∀ j, j < t → w.rangeAt gd (j * 32) (u8s (pdg shaRound shaStart l k (plen k m) j))
  th : w.there gd 0 (t * 32)
  built : Built w fb
  kept : Kept fb w1 w
  ne : gd ≠ g ∧ gd ≠ mb ∧ g ≠ mb ∧ ∀ j, j < t → bf j ≠ gd ∧ bf j ≠ mb
  low : w1.heap.size ≤ mb ∧ w1.heap.size ≤ gd ∧ w1.heap.size ≤ g
  up : mb < w.heap.size ∧ gd < w.heap.size ∧ g < w.heap.size ∧ ∀ j, j < t → bf j < w.heap.size

/-- the manifest's block was made behind the call -/
theorem md_late {fb rb mb0 k n t m mb g gd : Nat} {l : List Nat} {bf : Nat → Nat} {w1 wS wE wA wZ : World} (N : MkN fb rb mb0 g gd t bf wS) (R : MkR fb mb0 g gd k t m (plen k m) shaRound shaStart l bf wS wE) (hfb : fb < w1.heap.size)
    (hS : Below w1.heap.size w1 wS) (hmb : mb = wE.heap.size) (hA : Below wE.heap.size wE wA) (hml : mb < wA.heap.size) (hZ : wZ.heap[mb]? = some (.cells (mcells k n t m (dig shaRound shaStart l) (.slice (some ⟨gd, 0, none⟩) t t)).toArray 27 (0, 0))) (hk : Kept mb wA wZ) :
    MdR fb k n t m l mb g gd bf w1 wZ := by
  obtain ⟨n1, n2, n3, n4, n5⟩ := N.ne
  obtain ⟨l1, l2, l3, l4, l5, l6⟩ := N.low
  have hs := hS.size
  have hE := R.kept.size
  have hgl := R.pcs.own.lt
  have hgdl := R.gdl
  have hfl := R.built.lt
  have hz := hk.size
  have ha := hA.size
  have hbf : ∀ j, j < t → bf j < wE.heap.size := fun j hj => (R.pcs.row j hj).lt
  have hb : ∀ q, q < wE.heap.size → wZ.heap[q]? = wE.heap[q]? := fun q hq => (hk.block q (by omega) (by omega)).trans (hA.block q hq)
  refine ⟨hZ, ⟨(hb g hgl).trans R.pcs.own, fun j hj => (hb _ (hbf j hj)).trans (R.pcs.row j hj), fun j hj => Nat.le_trans hs (R.pcs.low j hj), R.pcs.inj, R.pcs.notb⟩, fun j hj => range_same (R.rng j hj) (hb gd hgdl), there_same R.th (hb gd hgdl), (hb fb hfl).trans R.built, ?_, ⟨n1, by omega, by omega, fun j hj => ⟨N.bfn j hj, by have := hbf j hj; omega⟩⟩, ⟨by omega, by omega, by omega⟩, ⟨by omega, by omega, by omega, fun j hj => by have := hbf j hj; omega⟩⟩
  exact ((Kept.of_below hS).trans R.kept).trans (((Kept.of_below hA).fresh hk (by omega)).trans (Kept.refl _ _))

/-- .. and ahead of it -/
theorem md_early {fb rb mb0 k n t m mb g gd : Nat} {l : List Nat} {bf : Nat → Nat} {w1 wS wE wZ : World} (N : MkN fb rb mb0 g gd t bf wS) (R : MkR fb mb0 g gd k t m (plen k m) shaRound shaStart l bf wS wE) (hfb : fb < w1.heap.size)
    (hS : Below w1.heap.size w1 wS) (hlo : w1.heap.size ≤ mb) (hml : mb < wS.heap.size) (hZ : wZ.heap[mb]? = some (.cells (mcells k n t m (dig shaRound shaStart l) (.slice (some ⟨gd, 0, none⟩) t t)).toArray 27 (0, 0))) (hk : Kept mb wE wZ) :
    MdR fb k n t m l mb g gd bf w1 wZ := by
  obtain ⟨n1, n2, n3, n4, n5⟩ := N.ne
  obtain ⟨l1, l2, l3, l4, l5, l6⟩ := N.low
  have hs := hS.size
  have hE := R.kept.size
  have hgl := R.pcs.own.lt
  have hgdl := R.gdl
  have hfl := R.built.lt
  have hz := hk.size
  have hbf : ∀ j, j < t → wS.heap.size ≤ bf j ∧ bf j < wE.heap.size := fun j hj => ⟨R.pcs.low j hj, (R.pcs.row j hj).lt⟩
  have hb : ∀ q, q < wE.heap.size → q ≠ mb → wZ.heap[q]? = wE.heap[q]? := fun q hq hne => hk.block q hq hne
  refine ⟨hZ, ⟨(hb g hgl (by omega)).trans R.pcs.own, fun j hj => (hb _ (hbf j hj).2 (by have := hbf j hj; omega)).trans (R.pcs.row j hj), fun j hj => Nat.le_trans hs (R.pcs.low j hj), R.pcs.inj, R.pcs.notb⟩, fun j hj => range_same (R.rng j hj) (hb gd hgdl (by omega)), there_same R.th (hb gd hgdl (by omega)), (hb fb hfl (by omega)).trans R.built, ?_, ⟨n1, by omega, by omega, fun j hj => ⟨N.bfn j hj, by have := hbf j hj; omega⟩⟩, ⟨hlo, by omega, by omega⟩, ⟨by omega, by omega, by omega, fun j hj => by have := hbf j hj; omega⟩⟩
  exact ((Kept.of_below hS).trans R.kept).fresh hk hlo
end Go.Proofs.YtahnihihfheegaaDoor
