/-
  DigestChecks.
-/
import Derived.Test.YtafkjfpmjhfofaaDoorChp
import Derived.Test.YtafkjfpmjhfofaaDoorKnw
import Derived.Test.YtafkjfpmjhfofaaDoorSob
import Derived.Deep.DeepCutAuto
namespace Go.Proofs.YtafkjfpmjhfofaaDoor
open Go Go.RowKit
set_option linter.unusedVariables false

/-- a load, as an operation -/
theorem run_load_opC {P : Program} {ev : Operand → Value} {o : Oper} {ty : TypeId} {x : Operand} {w : World} {v : Value} {ad : Addr} (h : (loadVar ty ad).run P w = .ok v w) (ho : o.op = .load ty x := by rfl) (hx : ev x = .pointer (some ad) := by rfl) :
    (execOp ev o).run P w = .ok (.value v) w := by
  unfold execOp
  simp only [ho, hx, Instr.loadAt, Instr.sureAddr, Sem.run_bind, Sem.run_pure, Result.andThen_ok, h]
theorem off_type {w : World} {base m n c : Nat} {a : Option Addr} {xs : List Value} (h : w.ownsRow base 5 1 (.slice a n c) m xs) {p : Nat} {cs : Array Value} {T : TypeId} {fr : Nat × Nat} (hp : w.heap[p]? = some (.cells cs T fr)) (hT : T ≠ 5) : Off p (.slice a n c) := by
  rcases h.2 with ⟨h1, _⟩ | ⟨g, cap, cur, h1, _, h3, _⟩
  · simp only [Value.slice.injEq] at h1
    rw [h1.1]; trivial
  · simp only [Value.slice.injEq] at h1
    rw [h1.1]
    show g ≠ p
    rintro rfl
    rw [h3] at hp
    simp at hp
    exact hT hp.2.1.symm
theorem heap_new_at {w : World} {o : Obj} {g : Nat} (h : w.heap.size = g) : (w.alloc o).heap[g]? = some o := h ▸ heap_new w o
theorem belA {w w' : World} (h : Below w.heap.size w w') (o : Obj) : Below w.heap.size w (w'.alloc o) := h.alloc h.size o
theorem own_empty {w : World} {base g : Nat} (h : w.heap[g]? = some (.cells #[] 5 (0, 0))) (hb : base ≤ g) : w.ownsRow base 5 1 (.slice (some ⟨g, 0, none⟩) 0 0) 0 [] :=
  ⟨rfl, .inr ⟨g, 0, #[], rfl, hb, h, Nat.le_refl _, Nat.zero_le _, rfl, rfl⟩⟩

/-- the piece that the law lays -/
structure QAt (w0 w : World) (qb : Nat) (x : Int) (qa : Option Addr) (n qc : Nat) (l : List Nat) : Prop where
  at_ : w.heap[qb]? = some (.cells #[.int .i64 x, .slice qa n qc] 43 (0, 0))
  bs : Bs w (.slice qa n qc) l
  cap : n ≤ qc
  nil : qa = none → qc = 0
  bel : Below w0.heap.size w0 w
theorem set2_pc {w : World} {b : Nat} {u0 u1 v0 v1 : Value} (h : w.heap[b]? = some (.cells #[u0, u1] 43 (0, 0))) : ((w.setCell ⟨b, 0, none⟩ v0).setCell ⟨b, 1, none⟩ v1).heap[b]? = some (.cells #[v0, v1] 43 (0, 0)) := by
  have h1 := heap_set h 0 v0
  have h2 := heap_set h1 1 v1
  simpa using h2
theorem nil_of_owns {w : World} {base m n c : Nat} {a : Option Addr} {xs : List Value} (h : w.ownsRow base 5 1 (.slice a n c) m xs) : a = none → c = 0 := fun e => by
  rcases h.2 with ⟨h1, _⟩ | ⟨g, cap, cur, h1, _⟩
  · simp only [Value.slice.injEq] at h1
    exact h1.2.2
  · simp only [Value.slice.injEq] at h1
    rw [h1.1] at e
    cases e
theorem qat_set {w0 w : World} {base pb : Nat} {x : Int} {u0 u1 : Value} {a : Option Addr} {n c : Nat} {l : List Nat} (hp : w.heap[pb]? = some (.cells #[u0, u1] 43 (0, 0))) (ho : w.ownsRow base 5 1 (.slice a n c) n (u8s l)) (hb : Bs w (.slice a n c) l) (hc : n ≤ c) (hw : Below w0.heap.size w0 w) (hle : w0.heap.size ≤ pb) :
    QAt w0 ((w.setCell ⟨pb, 0, none⟩ (.int .i64 x)).setCell ⟨pb, 1, none⟩ (.slice a n c)) pb x a n c l := by
  have hoff : Off pb (.slice a n c) := off_type ho hp (by decide)
  have k : Kept pb w ((w.setCell ⟨pb, 0, none⟩ (.int .i64 x)).setCell ⟨pb, 1, none⟩ (.slice a n c)) := ((Kept.refl _ _).setCell (p := ⟨pb, 0, none⟩) rfl _).trans ((Kept.refl _ _).setCell (p := ⟨pb, 1, none⟩) rfl _)
  exact ⟨set2_pc hp, hb.kept k hoff, hc, nil_of_owns ho, (hw.setCell (p := ⟨pb, 0, none⟩) hle _).setCell (p := ⟨pb, 1, none⟩) hle _⟩

set_option maxRecDepth 100000 in
set_option maxHeartbeats 4000000 in
theorem checks_walk (w : World) (V : Vars w shaRound shaStart) (R : Rnds w) (k n t s : Int) (od : List Nat) (a : Option Addr) (m c : Nat) (D : List (List Nat)) (ho : od.length = 32) (hol : ∀ y ∈ od, y < 256) (hD : Dgs w a m c D)
    (x : Int) (pa : Option Addr) (pn pc : Nat) (pl : List Nat) (hpw : (Lit.int .i64 x).wf = true) (hp : Bs w (.slice pa pn pc) pl) (hpc : pn ≤ pc) (hpn : pa = none → pc = 0) :
    Calls Tryd.prog 4 #[.agg (mcells k n t s od (.slice a m c)).toArray, .agg #[.int .i64 x, .slice pa pn pc]] w fun e w' => e = .returned (.bool true) ∧ Below w.heap.size w w' := by
  have HK := hid (fun (wx : World) (b : Below w.heap.size w wx) => known_dg wx (V.below b))
  obtain ⟨w2, hw2⟩ : ∃ y, y = (w.alloc (.cells (mcells k n t s od (.slice a m c)).toArray 27)).alloc (.cells #[.int .i64 x, .slice pa pn pc] 43) := ⟨_, rfl⟩
  have hs2 : w2.heap.size = w.heap.size + 2 := by rw [hw2]; simp
  have HB2 := hid (show Below w.heap.size w w2 from by rw [hw2]; exact belA (belA (Below.refl _ _) _) _)
  have HM2 := hid (show ManAt w2 w.heap.size k n t s od (.slice a m c) from by rw [hw2]; exact heap_alloc (heap_new _ _) _)
  have HP2 := hid (show w2.heap[w.heap.size + 1]? = some (.cells #[.int .i64 x, .slice pa pn pc] 43 (0, 0)) from by rw [hw2]; exact heap_new_at (by simp))
  have c36 := (HM2.out.c ho).2.2.2.2
  have hq0 : w2.cell? ⟨w.heap.size + 1, 0, none⟩ = some (.int .i64 x) := by rw [cell_of_heap HP2.out]; rfl
  have hq1 : w2.cell? ⟨w.heap.size + 1, 1, none⟩ = some (.slice pa pn pc) := by rw [cell_of_heap HP2.out]; rfl
  have hlp : w.heap.size + 1 < w2.heap.size := by omega
  have HD := hid hD
  have HV := hid V
  have HR := hid R
  have HPB := hid hp
  have HPN := hid hpn
  have HPL := hid (show ∀ y ∈ pl, y < 256 from by obtain ⟨_, _, _, h, _⟩ := hp; exact h)
  have HLEN := hid hp.len
  clear hD V R hp hpn
  by_cases h400 : 400 < m
  · as_aux_lemma =>
    have hI : 400 < (m : Int) := by omega
    clear hs2
    go_enter Tryd.func4, Tryd.ntmps4
    go_upto_region 1 with fail
    change Code.wp _ _ _ _ ((w.alloc (.cells (mcells k n t s od (.slice a m c)).toArray 27)).alloc (.cells #[.int .i64 x, .slice pa pn pc] 43))
    rw [← hw2]
    clear hw2
    go_wp2_with fail
    refine (HK.out w2 HB2.out).mono ?_
    rintro e w3 ⟨rfl, hb3⟩
    have HB3 := hid (HB2.out.trans (hb3.mono HB2.out.size))
    go_wp2
    go_ret
    exact ⟨rfl, HB3.out⟩
  by_cases h9 : 9000 < pn
  · as_aux_lemma =>
    have hI : ¬ 400 < (m : Int) := by omega
    have hI2 : 9000 < (pn : Int) := by omega
    clear hs2
    go_enter Tryd.func4, Tryd.ntmps4
    go_upto_region 1 with fail
    change Code.wp _ _ _ _ ((w.alloc (.cells (mcells k n t s od (.slice a m c)).toArray 27)).alloc (.cells #[.int .i64 x, .slice pa pn pc] 43))
    rw [← hw2]
    clear hw2
    go_wp2_with fail
    refine (HK.out w2 HB2.out).mono ?_
    rintro e w3 ⟨rfl, hb3⟩
    have HB3 := hid (HB2.out.trans (hb3.mono HB2.out.size))
    go_wp2
    go_ret
    exact ⟨rfl, HB3.out⟩
  have hI : ¬ 400 < (m : Int) := by omega
  have hI2 : ¬ 9000 < (pn : Int) := by omega
  clear hs2
  have KEEP := hid (fun (wx : World) (b : Below w2.heap.size w2 wx) => (show wx.cell? ⟨w.heap.size + 1, 0, none⟩ = some (.int .i64 x) ∧ wx.cell? ⟨w.heap.size + 1, 1, none⟩ = some (.slice pa pn pc) from by
    have h2 := (b.block _ hlp).trans HP2.out
    exact ⟨by rw [cell_of_heap h2]; rfl, by rw [cell_of_heap h2]; rfl⟩))
  go_enter Tryd.func4, Tryd.ntmps4
  go_upto_region 1 with fail
  change Code.wp _ _ _ _ ((w.alloc (.cells (mcells k n t s od (.slice a m c)).toArray 27)).alloc (.cells #[.int .i64 x, .slice pa pn pc] 43))
  rw [← hw2]
  clear hw2
  go_upto_region 3 with fail
  go_cut [5] (fun v wx => ∃ wy, wy = wx ∧ ∃ qb qa qc, v = .pointer (some ⟨qb, 0, none⟩) ∧ Hid (QAt w2 wy qb x qa pn qc pl))
  case first =>
    go_region_held3 (fun wx => wx.cell? ⟨w.heap.size + 1, 0, none⟩ = some (.int .i64 x) ∧ wx.cell? ⟨w.heap.size + 1, 1, none⟩ = some (.slice pa pn pc))
      (first | with_reducible exact KEEP.out _ (bel_drewN (Below.refl _ _) 1) | exact KEEP.out _ hbA | exact KEEP.out _ (belA hbA _) | exact KEEP.out _ ((hbA.setCell (p := ⟨w2.heap.size, 0, none⟩) (Nat.le_refl _) _).setCell (p := ⟨w2.heap.size, 1, none⟩) (Nat.le_refl _) _) | exact KEEP.out _ ((hbA.setCell (p := ⟨w2.heap.size + 1, 0, none⟩) (Nat.le_succ _) _).setCell (p := ⟨w2.heap.size + 1, 1, none⟩) (Nat.le_succ _) _) | exact KEEP.out _ (belA (bel_drewN (Below.refl _ _) 1) _) | exact KEEP.out _ (belA (belA (bel_drewN (Below.refl _ _) 1) _) _) | go_keep)
      (first
        | (refine step_own_bytes rfl (.tmp 19) (.tmp 21) rfl w2.heap.size (w2.heap.size + 1) rfl (own_empty (heap_new_at (by simp)) (Nat.le_succ _)) pa pn pc pl rfl ((HPB.out.below HB2.out).below (belA (belA (bel_drewN (Below.refl _ _) 1) _) _)) HPN.out (by omega) (by simp; omega) ?_
           intro v22 wA hdA hgA
           have hdA2 := hdA
           obtain ⟨a22, c22, e22, -, hc22, hb22, -⟩ := bs_of_owns hdA2 HPL.out
           subst e22
           have hbA : Below w2.heap.size w2 wA := (belA (belA (bel_drewN (Below.refl _ _) 1) _) _).grown hgA (by simp; omega) (fun g hg => by simp at hg; omega)
           have hP : wA.heap[w2.heap.size]? = some (.cells #[.int .i64 0, .slice none 0 0] 43 (0, 0)) := (hgA.block _ (by simp; omega) (by simp)).trans (heap_alloc (heap_new (w2.drewN 1) _) _)
           have y0 : wA.cell? ⟨w2.heap.size, 0, none⟩ = some (.int .i64 0) := by rw [cell_of_heap hP]; rfl
           have y1 : wA.cell? ⟨w2.heap.size, 1, none⟩ = some (.slice none 0 0) := by rw [cell_of_heap hP]; rfl
           have y2 := free_of_heap hP 0
           have y3 := free_of_heap hP 1
           have LV := hid (qat_set (x := x) hP hdA hb22 hc22 hbA (Nat.le_refl _)))
        | (refine step_own_bytes rfl (.tmp 19) (.tmp 21) rfl w2.heap.size w2.heap.size rfl (own_empty (heap_alloc (heap_new (w2.drewN 1) _) _) (Nat.le_refl _)) pa pn pc pl rfl ((HPB.out.below HB2.out).below (belA (belA (bel_drewN (Below.refl _ _) 1) _) _)) HPN.out (by omega) (by simp; omega) ?_
           intro v22 wA hdA hgA
           have hdA2 := hdA
           obtain ⟨a22, c22, e22, -, hc22, hb22, -⟩ := bs_of_owns hdA2 HPL.out
           subst e22
           have hbA : Below w2.heap.size w2 wA := (belA (belA (bel_drewN (Below.refl _ _) 1) _) _).grown hgA (by simp; omega) (fun g hg => by simp at hg; omega)
           have hP : wA.heap[w2.heap.size + 1]? = some (.cells #[.int .i64 0, .slice none 0 0] 43 (0, 0)) := (hgA.block _ (by simp) (by simp)).trans (heap_new_at (by simp))
           have y0 : wA.cell? ⟨w2.heap.size + 1, 0, none⟩ = some (.int .i64 0) := by rw [cell_of_heap hP]; rfl
           have y1 : wA.cell? ⟨w2.heap.size + 1, 1, none⟩ = some (.slice none 0 0) := by rw [cell_of_heap hP]; rfl
           have y2 := free_of_heap hP 0
           have y3 := free_of_heap hP 1
           have LV := hid (qat_set (x := x) hP hdA hb22 hc22 hbA (Nat.le_succ _)))
        | (refine step_own_bytes rfl (.tmp 19) (.tmp 21) rfl w2.heap.size w2.heap.size rfl (own_empty (heap_new (w2.drewN 1) _) (Nat.le_refl _)) pa pn pc pl rfl ((HPB.out.below HB2.out).below (belA (bel_drewN (Below.refl _ _) 1) _)) HPN.out (by omega) (by simp) ?_
           intro v22 wA hdA hgA
           have hdA2 := hdA
           obtain ⟨a22, c22, e22, -, hc22, hb22, -⟩ := bs_of_owns hdA2 HPL.out
           subst e22
           have hnil := nil_of_owns hdA
           have hbA : Below w2.heap.size w2 wA := (belA (bel_drewN (Below.refl _ _) 1) _).grown hgA (by simp) (fun g hg => by simp at hg; omega)
           have LV := hid (show QAt w2 (wA.alloc (.cells #[.int .i64 x, .slice a22 pn c22] 43)) wA.heap.size x a22 pn c22 pl from ⟨heap_new _ _, hb22.alloc _, hc22, hnil, belA hbA _⟩)))
    all_goals
      go_wp2_with fail
      go_meet
      exact ⟨_, rfl, _, _, _, rfl, LV⟩
  case rest =>
    obtain ⟨w3, hw3, qb, qa, qc, rfl, HQ⟩ := hcut
    subst hw3
    clear KEEP c36 hq0 hq1
    have HB3 := hid (HB2.out.trans (HQ.out.bel.mono HB2.out.size))
    have hqlt := lt_of_heap HQ.out.at_
    have HP3 := hid ((HQ.out.bel.block _ hlp).trans HP2.out)
    have HM3 := hid ((HQ.out.bel.block _ (lt_of_heap HM2.out)).trans HM2.out)
    have HML := mcells_length k n t s od (.slice a m c) ho
    have HIF := hid (show (Tryd.prog.info? 27).map (·.size) = some (mcells k n t s od (.slice a m c)).length from by rw [HML]; kernel_rfl)
    have HIP := hid (show ∀ u v : Value, (Tryd.prog.info? 43).map (·.size) = some [u, v].length from fun u v => by kernel_rfl)
    obtain ⟨XM, hXM⟩ : ∃ XM, XM = (mcells k n t s od (.slice a m c)).toArray := ⟨_, rfl⟩
    have HKP := hid (show ∀ wx, Below w3.heap.size w3 wx → Below w3.heap.size w3 wx ∧ (loadVar 27 ⟨w.heap.size, 0, none⟩).run Tryd.prog wx = .ok (.agg XM) wx ∧ (loadVar 43 ⟨qb, 0, none⟩).run Tryd.prog wx = .ok (.agg #[.int .i64 x, .slice qa pn qc]) wx ∧ (loadVar 43 ⟨w.heap.size + 1, 0, none⟩).run Tryd.prog wx = .ok (.agg #[.int .i64 x, .slice pa pn pc]) wx ∧ wx.cell? ⟨w.heap.size + 1, 0, none⟩ = some (.int .i64 x) ∧ wx.cell? ⟨w.heap.size + 1, 1, none⟩ = some (.slice pa pn pc) ∧ wx.cell? ⟨qb, 1, none⟩ = some (.slice qa pn qc) from fun wx b => by
      have hM := (b.block _ (lt_of_heap HM3.out)).trans HM3.out
      have hP := (b.block _ (lt_of_heap HP3.out)).trans HP3.out
      have hQ := (b.block _ hqlt).trans HQ.out.at_
      refine ⟨b, ?_, ?_, ?_, by rw [cell_of_heap hP]; rfl, by rw [cell_of_heap hP]; rfl, by rw [cell_of_heap hQ]; rfl⟩
      · rw [hXM]; exact run_loadVar_mid (P := Tryd.prog) wx w.heap.size 0 27 (mcells k n t s od (.slice a m c)) _ (range_of_heapO hM) Tryd.underlying27 rfl HIF.out
      · exact run_loadVar_mid (P := Tryd.prog) wx qb 0 43 [.int .i64 x, .slice qa pn qc] _ (range_of_heapO hQ) Tryd.underlying43 rfl (HIP.out _ _)
      · exact run_loadVar_mid (P := Tryd.prog) wx (w.heap.size + 1) 0 43 [.int .i64 x, .slice pa pn pc] _ (range_of_heapO hP) Tryd.underlying43 rfl (HIP.out _ _))
    have hW := fun (wx : World) (b : Below w3.heap.size w3 wx) => (show Below w.heap.size w wx from HB3.out.trans (b.mono HB3.out.size))
    have hDG := dig_length shaRound shaStart ([hi8 x, lo8 x] ++ pl)
    have HPD := hid (fun (wx : World) (b : Below w3.heap.size w3 wx) => (pdg_all x qa pn qc pl wx (HV.out.below (hW wx b)) (HQ.out.bs.below b) HQ.out.cap HQ.out.nil (by omega)).mono (fun e w' h => (show e = .returned (.agg (u8s (dig shaRound shaStart ([hi8 x, lo8 x] ++ pl))).toArray) ∧ Below w3.heap.size w3 w' from ⟨h.1, b.trans (h.2.mono b.size)⟩)))
    have HRD := hid (fun (wx : World) (b : Below w3.heap.size w3 wx) => (refd_all x pa pn pc pl wx (HR.out.below (hW wx b)) (HPB.out.below (hW wx b)) hpc HPN.out (by omega)).mono (fun e w' h => (show e = .returned (.agg (u8s (dig shaRound shaStart ([hi8 x, lo8 x] ++ pl))).toArray) ∧ Below w3.heap.size w3 w' from ⟨h.1, b.trans (h.2.mono b.size)⟩)))
    have HCP := hid (fun (wx : World) (b : Below w3.heap.size w3 wx) (a' : Option Addr) (c' : Nat) (hd : Dgs wx a' m c' D) => (chp_any wx (HV.out.below (hW wx b)) k n t s od a' m c' D ho hd x qa pn qc pl (HQ.out.bs.below b) HQ.out.cap HQ.out.nil (by omega)).mono (fun e w' h => (show e = .returned (.int .i64 (cpE k n t s m D x pl)) ∧ Below w3.heap.size w3 w' from ⟨h.1, b.trans (h.2.mono b.size)⟩)))
    have HRC := hid (fun (wx : World) (b : Below w3.heap.size w3 wx) => (rchp_any wx (HR.out.below (hW wx b)) k n t s od a m c D ho (HD.out.below (hW wx b)) x pa pn pc pl (HPB.out.below (hW wx b)) hpc HPN.out (by omega)).mono (fun e w' h => (show e = .returned (.int .i64 (cpE k n t s m D x pl)) ∧ Below w3.heap.size w3 w' from ⟨h.1, b.trans (h.2.mono b.size)⟩)))
    have HOW := hid (fun (wx : World) (b : Below w3.heap.size w3 wx) => (own_man k n t s od a m c D wx ho (HD.out.below (hW wx b)) (by omega)).mono (fun e w' (h : ∃ a' c', e = .returned (.agg (mcells k n t s od (.slice a' m c')).toArray) ∧ Dgs w' a' m c' D ∧ Below wx.heap.size wx w') => (show ∃ a' c', e = .returned (.agg (mcells k n t s od (.slice a' m c')).toArray) ∧ Dgs w' a' m c' D ∧ Below w3.heap.size w3 w' from by obtain ⟨a', c', h1, h2, h3⟩ := h; exact ⟨a', c', h1, h2, b.trans (h3.mono b.size)⟩)))
    have HK3 := hid (fun (wx : World) (b : Below w3.heap.size w3 wx) => (HK.out wx (hW wx b)).mono (fun e w' h => (show e = .returned (.bool true) ∧ Below w3.heap.size w3 w' from ⟨h.1, b.trans (h.2.mono b.size)⟩)))
    rw [← hXM] at HOW HRC
    generalize cpE k n t s m D x pl = E at HCP HRC
    generalize dig shaRound shaStart ([hi8 x, lo8 x] ++ pl) = DG at HPD HRD hDG
    have e1 := fun wy => eql_any DG DG hDG hDG wy
    simp only [decide_true] at e1
    clear hXM hW hDG HML HP3 HM3 HP2 HM2 hlp
    go_upto_region 4 with fail
    refine wp_region_held_drew (S := fun wx => Below w3.heap.size w3 wx ∧ (loadVar 27 ⟨w.heap.size, 0, none⟩).run Tryd.prog wx = .ok (.agg XM) wx ∧ (loadVar 43 ⟨qb, 0, none⟩).run Tryd.prog wx = .ok (.agg #[.int .i64 x, .slice qa pn qc]) wx ∧ (loadVar 43 ⟨w.heap.size + 1, 0, none⟩).run Tryd.prog wx = .ok (.agg #[.int .i64 x, .slice pa pn pc]) wx ∧ wx.cell? ⟨w.heap.size + 1, 0, none⟩ = some (.int .i64 x) ∧ wx.cell? ⟨w.heap.size + 1, 1, none⟩ = some (.slice pa pn pc) ∧ wx.cell? ⟨qb, 1, none⟩ = some (.slice qa pn qc)) (by kernel_rfl) (HKP.out _ (bel_drewN (Below.refl _ _) 1)) (fun hHeld => ?_)
    refine wpAnyH_take (i := 0) (oi := { dst := some 24, op := Op.fieldAddr 43 (Operand.tmp 3) 0, type := 0, pos := "manifest.go:109", after := #[], guard := none }) (v := ?_) rfl (by kernel_rfl) (by kernel_rfl) (by kernel_rfl) (fun _ _ _ h => h) (Or.inl ⟨by rfl, ?hy⟩) hHeld ?_
    case hy => (intro w hSw; (try dsimp only at hSw); obtain ⟨_, _, _, _, _, _, _⟩ := hSw; go_simp; all_goals (with_reducible rfl))
    try simp only [Act.put, List.setIfInBounds_toArray, List.set_cons_zero, List.set_cons_succ]
    refine wpAnyH_take (i := 1) (oi := { dst := some 25, op := Op.load 3 (Operand.tmp 24), type := 3, pos := "manifest.go:109", after := #[{ on := 0, ground := Ground.data }], guard := none }) (v := ?_) rfl (by kernel_rfl) (by kernel_rfl) (by kernel_rfl) (fun _ _ _ h => h) (Or.inl ⟨by rfl, ?hy⟩) hHeld ?_
    case hy => (intro w hSw; (try dsimp only at hSw); obtain ⟨_, _, _, _, _, _, _⟩ := hSw; go_simp; all_goals (with_reducible rfl))
    try simp only [Act.put, List.setIfInBounds_toArray, List.set_cons_zero, List.set_cons_succ]
    refine wpAnyH_take (i := 2) (oi := { dst := some 26, op := Op.fieldAddr 43 (Operand.tmp 5) 1, type := 0, pos := "manifest.go:109", after := #[], guard := none }) (v := ?_) rfl (by kernel_rfl) (by kernel_rfl) (by kernel_rfl) (fun _ _ _ h => h) (Or.inl ⟨by rfl, ?hy⟩) hHeld ?_
    case hy => (intro w hSw; (try dsimp only at hSw); obtain ⟨_, _, _, _, _, _, _⟩ := hSw; go_simp; all_goals (with_reducible rfl))
    try simp only [Act.put, List.setIfInBounds_toArray, List.set_cons_zero, List.set_cons_succ]
    refine wpAnyH_take (i := 3) (oi := { dst := some 27, op := Op.load 22 (Operand.tmp 26), type := 22, pos := "manifest.go:109", after := #[{ on := 2, ground := Ground.data }], guard := none }) (v := ?_) rfl (by kernel_rfl) (by kernel_rfl) (by kernel_rfl) (fun _ _ _ h => h) (Or.inl ⟨by rfl, ?hy⟩) hHeld ?_
    case hy => (intro w hSw; (try dsimp only at hSw); obtain ⟨_, _, _, _, _, _, _⟩ := hSw; go_simp; all_goals (with_reducible rfl))
    try simp only [Act.put, List.setIfInBounds_toArray, List.set_cons_zero, List.set_cons_succ]
    refine wpAnyH_take (i := 5) (oi := { dst := some 29, op := Op.fieldAddr 43 (Operand.tmp 3) 0, type := 0, pos := "manifest.go:109", after := #[], guard := none }) (v := ?_) rfl (by kernel_rfl) (by kernel_rfl) (by kernel_rfl) (fun _ _ _ h => h) (Or.inl ⟨by rfl, ?hy⟩) hHeld ?_
    case hy => (intro w hSw; (try dsimp only at hSw); obtain ⟨_, _, _, _, _, _, _⟩ := hSw; go_simp; all_goals (with_reducible rfl))
    try simp only [Act.put, List.setIfInBounds_toArray, List.set_cons_zero, List.set_cons_succ]
    refine wpAnyH_take (i := 6) (oi := { dst := some 30, op := Op.load 3 (Operand.tmp 29), type := 3, pos := "manifest.go:109", after := #[{ on := 5, ground := Ground.data }], guard := none }) (v := ?_) rfl (by kernel_rfl) (by kernel_rfl) (by kernel_rfl) (fun _ _ _ h => h) (Or.inl ⟨by rfl, ?hy⟩) hHeld ?_
    case hy => (intro w hSw; (try dsimp only at hSw); obtain ⟨_, _, _, _, _, _, _⟩ := hSw; go_simp; all_goals (with_reducible rfl))
    try simp only [Act.put, List.setIfInBounds_toArray, List.set_cons_zero, List.set_cons_succ]
    refine wpAnyH_take (i := 7) (oi := { dst := some 31, op := Op.fieldAddr 43 (Operand.tmp 3) 1, type := 0, pos := "manifest.go:109", after := #[], guard := none }) (v := ?_) rfl (by kernel_rfl) (by kernel_rfl) (by kernel_rfl) (fun _ _ _ h => h) (Or.inl ⟨by rfl, ?hy⟩) hHeld ?_
    case hy => (intro w hSw; (try dsimp only at hSw); obtain ⟨_, _, _, _, _, _, _⟩ := hSw; go_simp; all_goals (with_reducible rfl))
    try simp only [Act.put, List.setIfInBounds_toArray, List.set_cons_zero, List.set_cons_succ]
    refine wpAnyH_take (i := 8) (oi := { dst := some 32, op := Op.load 22 (Operand.tmp 31), type := 22, pos := "manifest.go:109", after := #[{ on := 7, ground := Ground.data }], guard := none }) (v := ?_) rfl (by kernel_rfl) (by kernel_rfl) (by kernel_rfl) (fun _ _ _ h => h) (Or.inl ⟨by rfl, ?hy⟩) hHeld ?_
    case hy => (intro w hSw; (try dsimp only at hSw); obtain ⟨_, _, _, _, _, _, _⟩ := hSw; go_simp; all_goals (with_reducible rfl))
    try simp only [Act.put, List.setIfInBounds_toArray, List.set_cons_zero, List.set_cons_succ]
    refine wpAnyH_ready (rs := [4]) (by kernel_rfl) (by simp) ?_
    refine AllReadyH.cons (o := { dst := some 28, op := Op.call { callee := Callee.value (Operand.func 18), args := #[Operand.tmp 25, Operand.tmp 27], argTypes := #[3, 22] }, type := 24, pos := "manifest.go:109", after := #[{ on := 1, ground := Ground.data }, { on := 3, ground := Ground.data }], guard := none }) rfl (fun K hK => ?_) AllReadyH.nil
    go_simp
    (refine (HPD.out _ hHeld.1).mono ?_; rintro e wA ⟨rfl, hbA⟩)
    have hB := hHeld.1
    clear hHeld
    go_wp2_with fail
    refine hK.out _ _ (HKP.out _ hbA) (fun hHeld => ?_)
    clear hK K hbA hB
    try simp only [Act.put, List.setIfInBounds_toArray, List.set_cons_zero, List.set_cons_succ]
    refine wpAnyH_ready (rs := [9]) (by kernel_rfl) (by simp) ?_
    refine AllReadyH.cons (o := { dst := some 33, op := Op.call { callee := Callee.value (Operand.func 19), args := #[Operand.tmp 30, Operand.tmp 32], argTypes := #[3, 22] }, type := 24, pos := "manifest.go:109", after := #[{ on := 6, ground := Ground.data }, { on := 8, ground := Ground.data }, { on := 4, ground := Ground.chain }], guard := none }) rfl (fun K hK => ?_) AllReadyH.nil
    go_simp
    (refine (HRD.out _ hHeld.1).mono ?_; rintro e wA ⟨rfl, hbA⟩)
    have hB := hHeld.1
    clear hHeld
    go_wp2_with fail
    refine hK.out _ _ (HKP.out _ hbA) (fun hHeld => ?_)
    clear hK K hbA hB
    try simp only [Act.put, List.setIfInBounds_toArray, List.set_cons_zero, List.set_cons_succ]
    refine wpAnyH_take (i := 10) (oi := { dst := some 34, op := Op.binOp BinOp.eql 24 (Operand.tmp 28) (Operand.tmp 33) 24, type := 4, pos := "manifest.go:109", after := #[{ on := 4, ground := Ground.data }, { on := 9, ground := Ground.data }], guard := none }) (v := ?_) rfl (by kernel_rfl) (by kernel_rfl) (by kernel_rfl) (fun _ _ _ h => h) (Or.inl ⟨by rfl, ?hy⟩) hHeld ?_
    case hy => (intro w hSw; (try dsimp only at hSw); obtain ⟨_, _, _, _, _, _, _⟩ := hSw; go_simp; all_goals (with_reducible rfl))
    try simp only [Act.put, List.setIfInBounds_toArray, List.set_cons_zero, List.set_cons_succ]
    refine wpAnyH_take (i := 11) (oi := { dst := some 35, op := Op.move (Operand.tmp 34), type := 4, pos := "manifest.go:109", after := #[{ on := 10, ground := Ground.data }, { on := 9, ground := Ground.chain }], guard := none }) (v := ?_) rfl (by kernel_rfl) (by kernel_rfl) (by kernel_rfl) (fun _ _ _ h => h) (Or.inl ⟨by rfl, ?hy⟩) hHeld ?_
    case hy => (intro w hSw; (try dsimp only at hSw); obtain ⟨_, _, _, _, _, _, _⟩ := hSw; go_simp; all_goals (with_reducible rfl))
    try simp only [Act.put, List.setIfInBounds_toArray, List.set_cons_zero, List.set_cons_succ]
    refine wpAnyH_take (i := 12) (oi := { dst := some 36, op := Op.load 27 (Operand.tmp 2), type := 27, pos := "manifest.go:109", after := #[{ on := 11, ground := Ground.guard }], guard := some (11, true) }) (v := .agg XM) rfl (by kernel_rfl) (by kernel_rfl) (by kernel_rfl) (fun _ _ _ h => h) (Or.inl ⟨by rfl, ?hy⟩) hHeld ?_
    case hy => (intro w hSw; exact run_load_opC hSw.2.1)
    try simp only [Act.put, List.setIfInBounds_toArray, List.set_cons_zero, List.set_cons_succ]
    refine wpAnyH_take (i := 14) (oi := { dst := some 38, op := Op.load 43 (Operand.tmp 5), type := 43, pos := "manifest.go:109", after := #[{ on := 11, ground := Ground.guard }], guard := some (11, true) }) (v := .agg #[.int .i64 x, .slice qa pn qc]) rfl (by kernel_rfl) (by kernel_rfl) (by kernel_rfl) (fun _ _ _ h => h) (Or.inl ⟨by rfl, ?hy⟩) hHeld ?_
    case hy => (intro w hSw; exact run_load_opC hSw.2.2.1)
    try simp only [Act.put, List.setIfInBounds_toArray, List.set_cons_zero, List.set_cons_succ]
    refine wpAnyH_take (i := 16) (oi := { dst := some 40, op := Op.load 27 (Operand.tmp 2), type := 27, pos := "manifest.go:109", after := #[{ on := 11, ground := Ground.guard }], guard := some (11, true) }) (v := .agg XM) rfl (by kernel_rfl) (by kernel_rfl) (by kernel_rfl) (fun _ _ _ h => h) (Or.inl ⟨by rfl, ?hy⟩) hHeld ?_
    case hy => (intro w hSw; exact run_load_opC hSw.2.1)
    try simp only [Act.put, List.setIfInBounds_toArray, List.set_cons_zero, List.set_cons_succ]
    refine wpAnyH_take (i := 17) (oi := { dst := some 41, op := Op.load 43 (Operand.tmp 3), type := 43, pos := "manifest.go:109", after := #[{ on := 11, ground := Ground.guard }], guard := some (11, true) }) (v := .agg #[.int .i64 x, .slice pa pn pc]) rfl (by kernel_rfl) (by kernel_rfl) (by kernel_rfl) (fun _ _ _ h => h) (Or.inl ⟨by rfl, ?hy⟩) hHeld ?_
    case hy => (intro w hSw; exact run_load_opC hSw.2.2.2.1)
    try simp only [Act.put, List.setIfInBounds_toArray, List.set_cons_zero, List.set_cons_succ]
    refine wpAnyH_ready (rs := [13]) (by kernel_rfl) (by simp) ?_
    refine AllReadyH.cons (o := { dst := some 37, op := Op.call { callee := Callee.value (Operand.func 21), args := #[Operand.tmp 36], argTypes := #[27] }, type := 27, pos := "manifest.go:109", after := #[{ on := 12, ground := Ground.data }, { on := 11, ground := Ground.chain }, { on := 11, ground := Ground.guard }], guard := some (11, true) }) rfl (fun K hK => ?_) AllReadyH.nil
    go_simp
    (refine (HOW.out _ hHeld.1).mono ?_; rintro e wA ⟨aA, cA, rfl, hdA, hbA⟩)
    have HDA := hid hdA
    clear hdA
    have hB := hHeld.1
    clear hHeld
    go_wp2_with fail
    refine hK.out _ _ (HKP.out _ hbA) (fun hHeld => ?_)
    clear hK K hbA hB
    try simp only [Act.put, List.setIfInBounds_toArray, List.set_cons_zero, List.set_cons_succ]
    refine wpAnyH_ready (rs := [15]) (by kernel_rfl) (by simp) ?_
    refine AllReadyH.cons (o := { dst := some 39, op := Op.call { callee := Callee.value (Operand.func 20), args := #[Operand.tmp 37, Operand.tmp 38], argTypes := #[27, 43] }, type := 34, pos := "manifest.go:109", after := #[{ on := 13, ground := Ground.data }, { on := 14, ground := Ground.data }, { on := 13, ground := Ground.chain }, { on := 11, ground := Ground.guard }], guard := some (11, true) }) rfl (fun K hK => ?_) AllReadyH.nil
    go_simp
    (refine (HCP.out _ hHeld.1 aA cA HDA.out).mono ?_; rintro e wA ⟨rfl, hbA⟩)
    have hB := hHeld.1
    clear hHeld
    go_wp2_with fail
    refine hK.out _ _ (HKP.out _ hbA) (fun hHeld => ?_)
    clear hK K hbA hB
    try simp only [Act.put, List.setIfInBounds_toArray, List.set_cons_zero, List.set_cons_succ]
    refine wpAnyH_ready (rs := [18]) (by kernel_rfl) (by simp) ?_
    refine AllReadyH.cons (o := { dst := some 42, op := Op.call { callee := Callee.value (Operand.func 22), args := #[Operand.tmp 40, Operand.tmp 41], argTypes := #[27, 43] }, type := 34, pos := "manifest.go:109", after := #[{ on := 16, ground := Ground.data }, { on := 17, ground := Ground.data }, { on := 15, ground := Ground.chain }, { on := 11, ground := Ground.guard }], guard := some (11, true) }) rfl (fun K hK => ?_) AllReadyH.nil
    go_simp
    (refine (HRC.out _ hHeld.1).mono ?_; rintro e wA ⟨rfl, hbA⟩)
    have hB := hHeld.1
    clear hHeld
    go_wp2_with fail
    refine hK.out _ _ (HKP.out _ hbA) (fun hHeld => ?_)
    clear hK K hbA hB
    try simp only [Act.put, List.setIfInBounds_toArray, List.set_cons_zero, List.set_cons_succ]
    refine wpAnyH_take (i := 19) (oi := { dst := some 43, op := Op.binOp BinOp.eql 34 (Operand.tmp 39) (Operand.tmp 42) 34, type := 4, pos := "manifest.go:109", after := #[{ on := 15, ground := Ground.data }, { on := 18, ground := Ground.data }, { on := 11, ground := Ground.guard }], guard := some (11, true) }) (v := ?_) rfl (by kernel_rfl) (by kernel_rfl) (by kernel_rfl) (fun _ _ _ h => h) (Or.inl ⟨by rfl, ?hy⟩) hHeld ?_
    case hy => (intro w hSw; (try dsimp only at hSw); obtain ⟨_, _, _, _, _, _, _⟩ := hSw; go_simp; all_goals (with_reducible rfl))
    try simp only [Act.put, List.setIfInBounds_toArray, List.set_cons_zero, List.set_cons_succ]
    refine wpAnyH_take (i := 20) (oi := { dst := some 44, op := Op.pick (Operand.tmp 35) (Operand.tmp 43) (Operand.const (Value.bool false)), type := 4, pos := "manifest.go:109", after := #[{ on := 11, ground := Ground.data }, { on := 19, ground := Ground.data }], guard := none }) (v := ?_) rfl (by kernel_rfl) (by kernel_rfl) (by kernel_rfl) (fun _ _ _ h => h) (Or.inl ⟨by rfl, ?hy⟩) hHeld ?_
    case hy => (intro w hSw; (try dsimp only at hSw); obtain ⟨_, _, _, _, _, _, _⟩ := hSw; go_simp; all_goals (with_reducible rfl))
    try simp only [Act.put, List.setIfInBounds_toArray, List.set_cons_zero, List.set_cons_succ]
    refine wpAnyH_take (i := 21) (oi := { dst := some 45, op := Op.move (Operand.tmp 44), type := 4, pos := "manifest.go:109", after := #[{ on := 20, ground := Ground.data }, { on := 18, ground := Ground.chain }], guard := none }) (v := ?_) rfl (by kernel_rfl) (by kernel_rfl) (by kernel_rfl) (fun _ _ _ h => h) (Or.inl ⟨by rfl, ?hy⟩) hHeld ?_
    case hy => (intro w hSw; (try dsimp only at hSw); obtain ⟨_, _, _, _, _, _, _⟩ := hSw; go_simp; all_goals (with_reducible rfl))
    try simp only [Act.put, List.setIfInBounds_toArray, List.set_cons_zero, List.set_cons_succ]
    refine wpAnyH_ready (rs := [22]) (by kernel_rfl) (by simp) ?_
    refine AllReadyH.cons (o := { dst := some 46, op := Op.call { callee := Callee.value (Operand.func 12), args := #[], argTypes := #[] }, type := 4, pos := "manifest.go:109", after := #[{ on := 21, ground := Ground.chain }, { on := 21, ground := Ground.guard }], guard := some (21, true) }) rfl (fun K hK => ?_) AllReadyH.nil
    go_simp
    (refine (HK3.out _ hHeld.1).mono ?_; rintro e wA ⟨rfl, hbA⟩)
    have hB := hHeld.1
    clear hHeld
    go_wp2_with fail
    refine hK.out _ _ (HKP.out _ hbA) (fun hHeld => ?_)
    clear hK K hbA hB
    try simp only [Act.put, List.setIfInBounds_toArray, List.set_cons_zero, List.set_cons_succ]
    refine wpAnyH_take (i := 23) (oi := { dst := some 47, op := Op.pick (Operand.tmp 45) (Operand.tmp 46) (Operand.const (Value.bool false)), type := 4, pos := "manifest.go:109", after := #[{ on := 21, ground := Ground.data }, { on := 22, ground := Ground.data }], guard := none }) (v := ?_) rfl (by kernel_rfl) (by kernel_rfl) (by kernel_rfl) (fun _ _ _ h => h) (Or.inl ⟨by rfl, ?hy⟩) hHeld ?_
    case hy => (intro w hSw; (try dsimp only at hSw); obtain ⟨_, _, _, _, _, _, _⟩ := hSw; go_simp; all_goals (with_reducible rfl))
    try simp only [Act.put, List.setIfInBounds_toArray, List.set_cons_zero, List.set_cons_succ]
    refine wpAnyH_take (i := 24) (oi := { dst := some 4, op := Op.assign (Operand.tmp 47), type := 4, pos := "manifest.go:109", after := #[{ on := 23, ground := Ground.data }, { on := 22, ground := Ground.chain }, { on := 0, ground := Ground.phase }, { on := 1, ground := Ground.phase }, { on := 2, ground := Ground.phase }, { on := 3, ground := Ground.phase }, { on := 4, ground := Ground.phase }, { on := 5, ground := Ground.phase }, { on := 6, ground := Ground.phase }, { on := 7, ground := Ground.phase }, { on := 8, ground := Ground.phase }, { on := 9, ground := Ground.phase }, { on := 10, ground := Ground.phase }, { on := 11, ground := Ground.phase }, { on := 12, ground := Ground.phase }, { on := 13, ground := Ground.phase }, { on := 14, ground := Ground.phase }, { on := 15, ground := Ground.phase }, { on := 16, ground := Ground.phase }, { on := 17, ground := Ground.phase }, { on := 18, ground := Ground.phase }, { on := 19, ground := Ground.phase }, { on := 20, ground := Ground.phase }, { on := 21, ground := Ground.phase }, { on := 22, ground := Ground.phase }, { on := 23, ground := Ground.phase }], guard := none }) (v := ?_) rfl (by kernel_rfl) (by kernel_rfl) (by kernel_rfl) (fun _ _ _ h => h) (Or.inl ⟨by rfl, ?hy⟩) hHeld ?_
    case hy => (intro w hSw; (try dsimp only at hSw); obtain ⟨_, _, _, _, _, _, _⟩ := hSw; go_simp; all_goals (with_reducible rfl))
    try simp only [Act.put, List.setIfInBounds_toArray, List.set_cons_zero, List.set_cons_succ]
    refine wpAnyH_done (by kernel_rfl) ?_ _
    go_wp2
    go_ret
    exact ⟨rfl, HB3.out.trans (hHeld.1.mono HB3.out.size)⟩
end Go.Proofs.YtafkjfpmjhfofaaDoor
