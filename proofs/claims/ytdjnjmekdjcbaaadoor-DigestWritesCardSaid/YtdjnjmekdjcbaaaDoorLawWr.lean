/-
  DigestWrites: the walk.
-/
import Derived.Test.YtdjnjmekdjcbaaaDoorKnw
import Derived.Test.YtdjnjmekdjcbaaaDoorHvy
import Derived.Test.YtdjnjmekdjcbaaaDoorWro
import Derived.Test.YtdjnjmekdjcbaaaDoorRd2
import Derived.Deep.RegionLaw
namespace Go.Proofs.YtdjnjmekdjcbaaaDoor
open Go Go.RowKit
set_option linter.unusedVariables false

/-- what the loop over the calls keeps: the Writer, the reference's state beside it -/
structure WsI (w wr : World) (lim : Int) (wb sk : Nat) (v : Value) (sa : Option Addr) (sc : Nat) (l : List Nat) (f : Bool) (i : Nat) : Prop where
  wg : WrG wr wb lim.toNat v l f
  vs : v.ownBlock ≠ some sk
  sq : wr.heap[sk]? = some (.cells #[.int .i64 lim, .bool f, .slice sa l.length sc] 29 (0, 0))
  st : Bs wr (.slice sa l.length sc) l
  cap : l.length ≤ sc
  nil : sa = none → sc = 0
  sb : ∀ ad, sa = some ad → ad.block < wr.heap.size ∧ ad.block ≠ wb ∧ ad.block ≠ sk ∧ v.ownBlock ≠ some ad.block
  bel : Below w.heap.size w wr
  lo : w.heap.size ≤ wb
  ls : w.heap.size ≤ sk
  ne : sk ≠ wb
  len : l.length ≤ 80000 * i
theorem wadd_len (lim : Nat) (l : List Nat) (f : Bool) (bs : List Nat) : (wadd lim l f bs).1.length ≤ l.length + bs.length := by
  unfold wadd
  split
  · exact Nat.le_add_right _ _
  · simp
theorem wop_len (lim : Nat) (l : List Nat) (f : Bool) (k : Int) (x : Nat) (bs : List Nat) : (wop lim l f k x bs).1.length ≤ l.length + bs.length + 8 := by
  unfold wop
  split
  · have h := wadd_len lim l f (beL (x % 256) 1); rw [beL_length] at h; omega
  · split
    · have h := wadd_len lim l f (beL (x % 65536) 2); rw [beL_length] at h; omega
    · split
      · have h := wadd_len lim l f (beL (x % 4294967296) 4); rw [beL_length] at h; omega
      · split
        · have h := wadd_len lim l f (beL x 8); rw [beL_length] at h; omega
        · split
          · have h := wadd_len lim l f bs; omega
          · split
            · unfold wtext
              have h := wadd_len lim l (f || decide (65535 < bs.length)) (beL bs.length 2 ++ bs)
              rw [List.length_append, beL_length] at h
              omega
            · show l.length ≤ _
              omega
theorem WrG.same {w w' : World} {wb lim : Nat} {v : Value} {l : List Nat} {f : Bool} (W : WrG w wb lim v l f) (h1 : w'.heap[wb]? = w.heap[wb]?) (h2 : ∀ k, v.ownBlock = some k → w'.heap[k]? = w.heap[k]?) : WrG w' wb lim v l f :=
  ⟨h1.trans W.at_, ⟨W.own.1, by
    rcases W.own.2 with h | ⟨q, cap, cur, e1, e2, e3, e4⟩
    · exact .inl h
    · exact .inr ⟨q, cap, cur, e1, e2, (h2 q (by rw [e1]; rfl)).trans e3, e4⟩⟩, W.lt, W.fit, W.cap⟩
theorem ws_below {w wr w9 : World} {lim : Int} {wb sk i : Nat} {v : Value} {sa : Option Addr} {sc : Nat} {l : List Nat} {f : Bool} (I : WsI w wr lim wb sk v sa sc l f i) (K : Below wr.heap.size wr w9) : WsI w w9 lim wb sk v sa sc l f i :=
  ⟨I.wg.belowO K, I.vs, (K.block sk (lt_of_heap I.sq)).trans I.sq, I.st.below K, I.cap, I.nil, fun ad e => ⟨Nat.lt_of_lt_of_le (I.sb ad e).1 K.size, (I.sb ad e).2⟩, I.bel.trans (K.mono I.bel.size), I.lo, I.ls, I.ne, I.len⟩
theorem ws_kept {w wr w9 : World} {lim : Int} {wb sk i g : Nat} {v : Value} {sa : Option Addr} {sc : Nat} {l : List Nat} {f : Bool} (I : WsI w wr lim wb sk v sa sc l f i) (K : Kept g wr w9) (hw : w.heap.size ≤ g) (h1 : g ≠ wb) (h2 : g ≠ sk) (h3 : v.ownBlock ≠ some g) (h4 : ∀ ad, sa = some ad → ad.block ≠ g) : WsI w w9 lim wb sk v sa sc l f i :=
  ⟨I.wg.same (K.block wb I.wg.lt_size (fun e => h1 e.symm)) (fun k hk => K.block k (I.wg.own.lt k hk).2 (fun e => h3 (by rw [hk, e]))), I.vs, (K.block sk (lt_of_heap I.sq) (fun e => h2 e.symm)).trans I.sq, I.st.kept K (off_to h4), I.cap, I.nil, fun ad e => ⟨Nat.lt_of_lt_of_le (I.sb ad e).1 K.size, (I.sb ad e).2⟩, I.bel.trans (K.below I.bel.size hw), I.lo, I.ls, I.ne, I.len⟩
theorem set3_in {w : World} {tb : Nat} {u v s x y z : Value} {T : TypeId} (h : w.heap[tb]? = some (.cells #[u, v, s] T (0, 0))) : (((w.setCell ⟨tb, 0, none⟩ x).setCell ⟨tb, 1, none⟩ y).setCell ⟨tb, 2, none⟩ z).heap[tb]? = some (.cells #[x, y, z] T (0, 0)) := by
  have h1 : (w.setCell ⟨tb, 0, none⟩ x).heap[tb]? = some (.cells #[x, v, s] T (0, 0)) := heap_set (cs := #[u, v, s]) h 0 x
  have h2 : ((w.setCell ⟨tb, 0, none⟩ x).setCell ⟨tb, 1, none⟩ y).heap[tb]? = some (.cells #[x, y, s] T (0, 0)) := heap_set (cs := #[x, v, s]) h1 1 y
  exact heap_set (cs := #[x, y, s]) h2 2 z

theorem ws_next {w w5 wA : World} {lim : Int} {wb sk i : Nat} {v5 : Value} {sa a3 : Option Addr} {sc c3 : Nat} {l l2 : List Nat} {f f2 : Bool} (hW5 : WrG w5 wb lim.toNat v5 l2 f2) (hv : v5.ownBlock ≠ some sk) (hq5 : w5.heap[sk]? = some (.cells #[.int .i64 lim, .bool f, .slice sa l.length sc] 29 (0, 0)))
    (hsb : ∀ ad, sa = some ad → ad.block < w5.heap.size ∧ ad.block ≠ wb ∧ ad.block ≠ sk ∧ v5.ownBlock ≠ some ad.block) (hbel : Below w.heap.size w w5) (lo : w.heap.size ≤ wb) (ls : w.heap.size ≤ sk) (ne : sk ≠ wb) (hlen : l2.length ≤ 80000 * (i + 1))
    (hb3 : Bs wA (.slice a3 l2.length c3) l2) (hc3 : l2.length ≤ c3) (hn3 : a3 = none → c3 = 0) (hbA : Below w5.heap.size w5 wA) (hab3 : ∀ ad, a3 = some ad → ad.block < wA.heap.size) (hsrc : a3 = sa ∨ ∀ ad, a3 = some ad → w5.heap.size ≤ ad.block) :
    WsI w (((wA.setCell ⟨sk, 0, none⟩ (.int .i64 lim)).setCell ⟨sk, 1, none⟩ (.bool f2)).setCell ⟨sk, 2, none⟩ (.slice a3 l2.length c3)) lim wb sk v5 a3 c3 l2 f2 (i + 1) := by
  have hsk := lt_of_heap hq5
  have hk : Kept sk wA (((wA.setCell ⟨sk, 0, none⟩ (.int .i64 lim)).setCell ⟨sk, 1, none⟩ (.bool f2)).setCell ⟨sk, 2, none⟩ (.slice a3 l2.length c3)) := (((Kept.refl _ _).setCell (p := ⟨sk, 0, none⟩) rfl _).setCell (p := ⟨sk, 1, none⟩) rfl _).setCell (p := ⟨sk, 2, none⟩) rfl _
  have hqA := (hbA.block sk hsk).trans hq5
  have hwb := hW5.lt_size
  have h3 : ∀ ad, a3 = some ad → ad.block ≠ wb ∧ ad.block ≠ sk ∧ v5.ownBlock ≠ some ad.block := fun ad e => by
    rcases hsrc with h | h
    · subst h; exact (hsb ad e).2
    · have h9 := h ad e
      exact ⟨by omega, by omega, fun e9 => by have := (hW5.own.lt _ e9).2; omega⟩
  have hbx := hbel.trans (hbA.mono hbel.size)
  exact ⟨(hW5.belowO hbA).same (hk.block wb (by have := hbA.size; omega) (fun e => ne e.symm)) (fun k hk9 => hk.block k (by have := (hW5.own.lt k hk9).2; have := hbA.size; omega) (fun e => hv (by rw [hk9, e]))), hv, set3_in hqA, hb3.kept hk (off_to fun ad e => (h3 ad e).2.1), hc3, hn3, fun ad e => ⟨Nat.lt_of_lt_of_le (hab3 ad e) hk.size, h3 ad e⟩, hbx.trans (hk.below hbx.size ls), lo, ls, ne, hlen⟩

set_option maxRecDepth 100000 in
set_option maxHeartbeats 4000000 in
theorem writes_walk (w : World) (V : Vars w shaRound shaStart) (lim : Int) (hlw : (Lit.int .i64 lim).wf = true) (v : Value) (os : List OpV) (hP : Ops w v os) :
    Calls Tryd.prog 3 #[.int .i64 lim, v] w fun e w' => e = .returned (.bool true) ∧ Below w.heap.size w w' := by
  have hlm : lim < 9223372036854775808 := by
    have e2 : IntKind.i64.max = 9223372036854775807 := rfl
    simp [Lit.wf] at hlw
    omega
  have HK := hid (fun (wx : World) (b : Below w.heap.size w wx) => known_dg wx (V.below b))
  have HH := hid (heavy_any v os w hP)
  have HP := hid hP
  obtain ⟨oa, oc, rfl, -⟩ := hP
  obtain ⟨n, hn⟩ : ∃ n, n = os.length := ⟨_, rfl⟩
  rw [← hn] at HH ⊢
  have HN := hid hn
  have HNW := hid (NewWriterG_any lim hlm w)
  have HLM := hid hlm
  clear hn V hlw hlm
  go_enter Tryd.func3, Tryd.ntmps3
  go_wp2_with fail
  refine HH.out.mono ?_
  clear HH
  rintro e w1 ⟨hv, rfl, rfl, hfacts⟩
  cases hv with
  | true =>
    go_wp2_with fail
    refine (HK.out w (Below.refl _ _)).mono ?_
    rintro e w2 ⟨rfl, hb2⟩
    go_wp2
    go_ret
    exact ⟨rfl, hb2⟩
  | false =>
  obtain ⟨hf1, hf2, hf3⟩ := hfacts rfl
  have HF := hid (And.intro hf1 (And.intro hf2 hf3))
  have hn200 : n ≤ 200 := by rw [HN.out]; exact hf1
  clear hfacts hf1 hf2 hf3
  go_wp2_with fail
  refine HNW.out.mono ?_
  clear HNW
  rintro e w1 ⟨rfl, hW1, hb1⟩
  obtain ⟨wb, hwb⟩ : ∃ x, x = w.heap.size := ⟨_, rfl⟩
  rw [← hwb] at hW1 ⊢
  have HWB := hid hwb
  obtain ⟨w2, hw2⟩ : ∃ q, q = w1.alloc (.cells #[.int .i64 lim, .bool false, .slice none 0 0] 29) := ⟨_, rfl⟩
  obtain ⟨sk, hsk⟩ : ∃ q, q = w1.heap.size := ⟨_, rfl⟩
  have hwlt := hW1.lt_size
  have hz1 := hb1.size
  have HI2 := hid (show WsI w w2 lim wb sk (.slice none 0 0) none 0 [] false 0 from by
    refine ⟨by rw [hw2]; exact hW1.alloc _, (fun h => by cases h), by rw [hw2, hsk]; exact heap_new _ _, bs_nilH _ _ _, Nat.le_refl _, (fun _ => rfl), (fun ad e => by cases e), by rw [hw2]; exact hb1.alloc hb1.size _, by omega, by omega, by omega, Nat.zero_le _⟩)
  clear hW1 hb1 hwb hwlt hz1
  go_upto_region 7 with fail
  rw [← hsk, ← hw2]
  clear hsk hw2
  go_wp2
  go_loopw [7] (fun iv wr => ∃ (i : Nat) (v : Value) (sa : Option Addr) (sc : Nat) (l : List Nat) (f : Bool), i ≤ n ∧ iv = .int .i64 i ∧ Hid (WsI w wr lim wb sk v sa sc l f i)) (fun iv _ => n - (intOf iv).toNat)
  case atStart => exact ⟨0, _, _, _, _, _, by omega, rfl, HI2⟩
  case round =>
    clear HI2
    obtain ⟨i, v, sa, sc, l, f, hi, rfl, HI⟩ := hrel
    by_cases hin : i < n
    case neg =>
      obtain rfl : i = n := by omega
      have hnn : ¬ ((i : Int) < (i : Int)) := by omega
      go_wp2_with fail
      refine (HK.out wr HI.out.bel).mono ?_
      rintro e w2 ⟨rfl, hb2⟩
      have HF2 := hid (HI.out.bel.trans (hb2.mono HI.out.bel.size))
      clear hb2
      go_wp2
      go_ret
      exact ⟨rfl, HF2.out⟩
    case pos => as_aux_lemma =>
      have hIn : (i : Int) < (n : Int) := by omega
      have hil : i < os.length := by rw [← HN.out]; exact hin
      obtain ⟨b, o, c', hv, e0, e1, e2, e3, hby, hx⟩ := ops_at HP.out i hil
      simp only [Value.slice.injEq] at hv
      obtain ⟨rfl, -, -⟩ := hv
      have hlt := World.block_lt_of_cell? _ _ e0
      have h7n := HF.out.2.1 i hil
      have hon : opN os[i] = os[i].2.2.2.2.1 := rfl
      rw [hon] at h7n
      clear hon
      generalize os[i] = q at *
      obtain ⟨k, x, nn, pa, pn, pc, bs⟩ := q
      simp only at e0 e1 e2 e3 hby hx h7n
      have HC := hid (show ∀ wx, Below w.heap.size w wx → wx.cell? ⟨b, o + i * 4, none⟩ = some (.int .i64 k) ∧ wx.cell? ⟨b, o + i * 4 + 1, none⟩ = some (.int .u64 (x : Int)) ∧ wx.cell? ⟨b, o + i * 4 + 2, none⟩ = some (.int .i64 nn) ∧ wx.cell? ⟨b, o + i * 4 + 3, none⟩ = some (.slice pa pn pc) from fun wx h => ⟨(h.cell (p := ⟨b, o + i * 4, none⟩) hlt).trans e0, (h.cell (p := ⟨b, o + i * 4 + 1, none⟩) hlt).trans e1, (h.cell (p := ⟨b, o + i * 4 + 2, none⟩) hlt).trans e2, (h.cell (p := ⟨b, o + i * 4 + 3, none⟩) hlt).trans e3⟩)
      have HBP := hid hby.1
      have HPN := hid hby.2.2
      have HPL := hid hby.1.len
      obtain ⟨d0, d1, d2, d3⟩ := HC.out wr HI.out.bel
      have hll := HI.out.len
      have HQ := hid (writeG_any wb lim.toNat x pn pc k nn pa v l bs f wr HI.out.wg hx (HBP.out.below HI.out.bel) HPN.out (by omega) (by omega))
      have HWL := hid (show (wop lim.toNat l f k x bs).1.length ≤ 80000 * (i + 1) from by
        have h := wop_len lim.toNat l f k x bs
        have h2 := HPL.out
        omega)
      have HWO := hid (fun (wy : World) (a' : Option Addr) (c' : Nat) (hbb : Bs wy (.slice a' l.length c') l) (hn : a' = none → c' = 0) (hc : l.length ≤ c') (hab : ∀ ad, a' = some ad → ad.block < wy.heap.size) (hp : Bs wy (.slice pa pn pc) bs) => wrote_any k x pn pc l.length c' lim.toNat nn lim a' pa f l bs wy rfl HLM.out hx hbb hn hc (by omega) hab hp HPN.out (by omega))
      clear e0 e1 e2 e3 hby hlt hll hx
      obtain ⟨ln, hln⟩ : ∃ q, q = l.length := ⟨_, rfl⟩
      go_wp2_with fail
      refine HQ.out.mono ?_
      clear HQ
      rintro e w5 ⟨rfl, v5, hW5, hK5, hS5⟩
      have hskl : sk < wr.heap.size := lt_of_heap HI.out.sq
      have HB5 := hid (HI.out.bel.trans (hK5.below HI.out.bel.size HI.out.lo (fun k hk => by have h := (HI.out.wg.own.lt k hk).1; have h2 := HI.out.lo; omega)))
      have hq5 : w5.heap[sk]? = _ := (hK5.block sk hskl HI.out.ne HI.out.vs).trans HI.out.sq
      have hst5 : Bs w5 (.slice sa l.length sc) l := HI.out.st.keptR hK5 (fun ad e _ => ⟨(HI.out.sb ad e).2.1, (HI.out.sb ad e).2.2.2⟩)
      have hvs5 := hS5.own sk hskl HI.out.vs
      have hsb5 : ∀ ad, sa = some ad → ad.block < w5.heap.size ∧ ad.block ≠ wb ∧ ad.block ≠ sk ∧ v5.ownBlock ≠ some ad.block := fun ad e => ⟨Nat.lt_of_lt_of_le (HI.out.sb ad e).1 hK5.size, (HI.out.sb ad e).2.1, (HI.out.sb ad e).2.2.1, hS5.own _ (HI.out.sb ad e).1 (HI.out.sb ad e).2.2.2⟩
      have HS5 := hid (And.intro hst5 (And.intro hvs5 hsb5))
      have HRF := hid (fun wy (hb : Below w5.heap.size w5 wy) => HWO.out wy sa sc (hst5.below hb) HI.out.nil HI.out.cap (fun ad e => Nat.lt_of_lt_of_le (hsb5 ad e).1 hb.size) (HBP.out.below (HB5.out.trans (hb.mono HB5.out.size))))
      generalize wop lim.toNat l f k x bs = r at *
      obtain ⟨l2, f2⟩ := r
      simp only at hW5 HWL
      have HW5 := hid hW5
      have HQ5 := hid hq5
      have hsk5 := lt_of_heap hq5
      have HWR := hid (And.intro HI.out.bel.size hK5.size)
      have HK5 := hid hK5
      rw [← hln] at hq5 HRF
      have p0 : w5.cell? ⟨sk, 0, none⟩ = some (.int .i64 lim) := by rw [cell_of_heap hq5]; rfl
      have p1 : w5.cell? ⟨sk, 1, none⟩ = some (.bool f) := by rw [cell_of_heap hq5]; rfl
      have p2 : w5.cell? ⟨sk, 2, none⟩ = some (.slice sa ln sc) := by rw [cell_of_heap hq5]; rfl
      obtain ⟨c0, c1, c2, c3'⟩ := HC.out w5 HB5.out
      unfold outV at HRF
      clear hln hW5 hK5 hS5 hst5 hvs5 hsb5 hq5 d0 d1 d2 d3
      go_upto_region 11 with fail
      go_cut [37] (fun rv wx => ∃ wy, wy = wx ∧ ∃ a3 c3, rv = .agg #[.int .i64 lim, .bool f2, .slice a3 l2.length c3] ∧ Hid (WsI w wy lim wb sk v5 a3 c3 l2 f2 (i + 1)))
      case first =>
        go_region_with (go_at_call 13; refine (HRF.out _ (bel_drewN (Below.refl _ _) 1)).mono ?_; rintro e wA ⟨a3, c3, rfl, hb3, hc3, hn3, hbA0, hab3, hsrc⟩; unfold outV; have hqA := (hbA0.block sk hsk5).trans HQ5.out; have y0 : wA.cell? ⟨sk, 0, none⟩ = some (.int .i64 lim) := (by rw [cell_of_heap hqA]; rfl); have y1 : wA.cell? ⟨sk, 1, none⟩ = some (.bool f) := (by rw [cell_of_heap hqA]; rfl); have y2 : wA.cell? ⟨sk, 2, none⟩ = some (.slice sa l.length sc) := (by rw [cell_of_heap hqA]; rfl); have y3 := free_of_heap hqA 0; have y4 := free_of_heap hqA 1; have y5 := free_of_heap hqA 2)
        all_goals
          have LV := hid (ws_next HW5.out HS5.out.2.1 HQ5.out HS5.out.2.2 HB5.out HI.out.lo HI.out.ls HI.out.ne HWL.out hb3 hc3 hn3 ((bel_drewN (Below.refl _ _) 1).trans hbA0) hab3 hsrc)
          go_wp2_with fail
          go_meet
          exact ⟨_, rfl, _, _, rfl, LV⟩
      case rest =>
        obtain ⟨w8, hw8, a3, c3, rfl, HI8⟩ := hcut
        subst hw8
        clear p0 p1 p2 c0 c1 c2 c3' HRF HC HS5 HW5 HQ5 HB5 HK5
        have HL2 := hid (show l2.length ≤ 100000000 from by have h := HWL.out; omega)
        have HBT := hid (BytesG_any wb lim.toNat v5 l2 f2 w8 HI8.out.wg (by have h := HL2.out; omega))
        cases f2 with
        | true => as_aux_lemma =>
          go_wp2_with fail
          refine HBT.out.mono ?_
          clear HBT
          intro e w9 hp
          obtain ⟨rfl, rfl⟩ := hp.1 rfl
          clear hp
          have hq8 := HI8.out.sq
          have hsk8 := lt_of_heap hq8
          have hne8 : Nonempty (Cls fun w' => Below w8.heap.size w8 w') := ⟨⟨w8, Below.refl _ _⟩⟩
          have HLEN := hid (fun (p : Cls (fun w' => Below w8.heap.size w8 w')) => (LenG_any wb lim.toNat v5 l2 true p.w (HI8.out.wg.belowO p.h)).mono (fun e w' (h : _ ∧ _) => (⟨h.1, h.2.symm⟩ : e = _ ∧ w' = p.w)))
          obtain ⟨zl, hzl⟩ : ∃ q, q = l2.length := ⟨_, rfl⟩
          rw [← hzl] at hq8 HLEN
          have p1 : ∀ p : Cls (fun w' => Below w8.heap.size w8 w'), p.w.cell? ⟨sk, 1, none⟩ = some (.bool true) := fun p => (p.h.cell (p := ⟨sk, 1, none⟩) hsk8).trans (by rw [cell_of_heap hq8]; rfl)
          have p2 : ∀ p : Cls (fun w' => Below w8.heap.size w8 w'), p.w.cell? ⟨sk, 2, none⟩ = some (.slice a3 zl c3) := fun p => (p.h.cell (p := ⟨sk, 2, none⟩) hsk8).trans (by rw [cell_of_heap hq8]; rfl)
          have n2 : ((zl : Int) != (zl : Int)) = false := by simp
          have HZL := hid hzl
          clear hq8 hzl
          go_upto_region 13 with fail
          refine wp_region_class_lit (G := fun w' => Below w8.heap.size w8 w') (by kernel_rfl) (by kernel_rfl) (bel_drewN (Below.refl _ _) 1) ?_
          repeat (go_big_quiet_step ((go_at_call 15; exact Calls.cls_same (HLEN.out _))))
          refine wpQuiet_nil ?_
          rintro _ ⟨p, rfl⟩
          have q1 := p1 p
          have q2 := p2 p
          have HI9 := hid (ws_below HI8.out p.h)
          clear p1 p2 HLEN HI8
          generalize p.w = wz at *
          go_wp2
          go_loopw [10] (fun jv wx => jv = .int .i64 0 ∧ Hid (WsI w wx lim wb sk v5 a3 c3 l2 true (i + 1))) (fun _ _ => 0)
          case atStart => exact ⟨rfl, HI9⟩
          case round =>
            clear HI9
            obtain ⟨rfl, HI9⟩ := hrel
            go_wp2
            exact ⟨⟨i + 1, _, _, _, _, _, by omega, by go_num, HI9⟩, by simp [intOf]; omega⟩
        | false => as_aux_lemma =>
          go_wp2_with fail
          refine HBT.out.mono ?_
          clear HBT
          intro e w9 hp
          obtain ⟨u, rfl, ao, co, rfl, hco, hbo, hno, hfo, hbel, hown⟩ := hp.2 rfl
          have HI7 := HI8
          have HOX := hid hown
          have HBX := hid hbo
          have hz79 := lt_of_heap HI7.out.sq
          have HBE := hid hbel
          clear hp hco hbo hno hfo hbel hown HI8
          have HI8 := hid (ws_below HI7.out HBE.out)
          have hz89 := HBE.out.size
          obtain ⟨w7, rfl⟩ : ∃ q, q = w8 := ⟨_, rfl⟩
          obtain ⟨w8, rfl⟩ : ∃ q, q = w9 := ⟨_, rfl⟩
          have hq8 := HI8.out.sq
          have hsk8 := lt_of_heap hq8
          have hne8 : Nonempty (Cls fun w' => Below w8.heap.size w8 w') := ⟨⟨w8, Below.refl _ _⟩⟩
          have HLEN := hid (fun (p : Cls (fun w' => Below w8.heap.size w8 w')) => (LenG_any wb lim.toNat v5 l2 false p.w (HI8.out.wg.belowO p.h)).mono (fun e w' (h : _ ∧ _) => (⟨h.1, h.2.symm⟩ : e = _ ∧ w' = p.w)))
          obtain ⟨zl, hzl⟩ : ∃ q, q = l2.length := ⟨_, rfl⟩
          rw [← hzl] at hq8 HLEN
          have p1 : ∀ p : Cls (fun w' => Below w8.heap.size w8 w'), p.w.cell? ⟨sk, 1, none⟩ = some (.bool false) := fun p => (p.h.cell (p := ⟨sk, 1, none⟩) hsk8).trans (by rw [cell_of_heap hq8]; rfl)
          have p2 : ∀ p : Cls (fun w' => Below w8.heap.size w8 w'), p.w.cell? ⟨sk, 2, none⟩ = some (.slice a3 zl c3) := fun p => (p.h.cell (p := ⟨sk, 2, none⟩) hsk8).trans (by rw [cell_of_heap hq8]; rfl)
          have n2 : ((zl : Int) != (zl : Int)) = false := by simp
          have HZL := hid hzl
          clear hq8 hzl
          rw [← HZL.out] at HOX HBX ⊢
          go_upto_region 13 with fail
          refine wp_region_class_lit (G := fun w' => Below w8.heap.size w8 w') (by kernel_rfl) (by kernel_rfl) (bel_drewN (Below.refl _ _) 1) ?_
          repeat (go_big_quiet_step ((go_at_call 15; exact Calls.cls_same (HLEN.out _))))
          refine wpQuiet_nil ?_
          rintro _ ⟨p, rfl⟩
          have q1 := p1 p
          have q2 := p2 p
          have HI9 := hid (ws_below HI8.out p.h)
          have HOX9 := hid (owns_belowR HOX.out p.h)
          have HBX9 := hid (HBX.out.below p.h)
          have HBY9 := hid (HI8.out.st.below p.h)
          have hsz := p.h.size
          rw [← HZL.out] at HBY9
          clear p1 p2 HLEN
          generalize p.w = wz at *
          have hcx := conv_bs HBX9.out
          have hcy := conv_bs HBY9.out
          have hzl2 : zl ≤ 100000000 := by rw [HZL.out]; exact HL2.out
          have HWLO := hid HI7.out.bel.size
          have HVO := hid (fun k (h : v5.ownBlock = some k) => (HI7.out.wg.own.lt k h).2)
          have HWBL := hid HI7.out.wg.lt_size
          have HSBL := hid HI7.out.sb
          have hlt9 : w7.heap.size < wz.heap.size ∨ zl = 0 := by
            by_cases h0 : 0 < zl
            · obtain ⟨g, h1, h2, h3, h4⟩ := buf_of_owns HOX9.out h0
              exact .inl (Nat.lt_of_le_of_lt h2 h3.lt)
            · exact .inr (by omega)
          generalize bstr l2 = SX at *
          obtain ⟨g2, hg2, hcp2⟩ : ∃ g2, w7.heap.size ≤ g2 ∧ CpB wz g2 co zl ao := by
            rcases hlt9 with h | h
            · obtain ⟨g2, h1, _, h3⟩ := cpB_of HOX9.out h HBX9.out.lt
              exact ⟨g2, h1, h3⟩
            · exact ⟨w7.heap.size, Nat.le_refl _, fun h9 => by omega⟩
          have HCP2 := hid hcp2
          clear hcp2 HI8 HOX HOX9 HI7 hlt9
          go_wp2
          go_loopw [10] (fun jv wx => ∃ j2 : Nat, j2 ≤ zl ∧ jv = .int .i64 j2 ∧ Hid (CpB wx g2 co zl ao) ∧ Hid (Kept g2 wz wx)) (fun jv _ => zl - (intOf jv).toNat)
          case atStart => exact ⟨0, by omega, rfl, HCP2, hid (Kept.refl _ _)⟩
          case round =>
            clear HCP2
            obtain ⟨j2, hj2, rfl, HCP, HKX⟩ := hrel
            by_cases hjx : j2 < zl
            · have hJ2 : (j2 : Int) < (zl : Int) := by omega
              obtain ⟨rfl, l9, hl1, hl2, hbuf⟩ := HCP.out (by omega)
              have k1 := hbuf.cell j2 (by omega)
              have f1 := hbuf.free j2
              have hx9 := hl2 j2
              have HST := hid (fun y => hbuf.set j2 y (by omega))
              have HL1 := hid hl1
              have HL22 := hid hl2
              clear hl1 hl2 hbuf
              generalize l9.getD j2 0 = x9 at *
              have j3 : bits .xor .u8 (x9 : Int) 255 = ((x9 ^^^ 255 : Nat) : Int) := u8_xor_nat x9 255 hx9 (by decide)
              have hy9 : x9 ^^^ 255 < 256 := Nat.xor_lt_two_pow (n := 8) hx9 (by decide)
              have HNX := hid (show CpB (wr.setCell ⟨g2, j2, none⟩ (.int .u8 ((x9 ^^^ 255 : Nat) : Int))) g2 co zl (some ⟨g2, 0, none⟩) from fun _ => ⟨rfl, _, by rw [List.length_set]; exact HL1.out, set_ltB l9 HL22.out j2 _ hy9, HST.out _⟩)
              have HKN := hid (HKX.out.setCell (p := ⟨g2, j2, none⟩) rfl (.int .u8 ((x9 ^^^ 255 : Nat) : Int)))
              generalize x9 ^^^ 255 = y9 at *
              go_wp2
              exact ⟨⟨j2 + 1, by omega, by go_num, HNX, HKN⟩, by simp [intOf]; omega⟩
            obtain rfl : j2 = zl := by omega
            have hJ2 : ¬ ((j2 : Int) < (j2 : Int)) := by omega
            have HIN := hid (ws_kept HI9.out HKX.out (by have h := HWLO.out; omega) (by have h := HWBL.out; omega) (by omega) (fun h => by have := HVO.out _ h; omega) (fun ad e h => by have := (HSBL.out ad e).1; omega))
            go_wp2
            exact ⟨⟨i + 1, _, _, _, _, _, by omega, by go_num, HIN⟩, by simp [intOf]; omega⟩
end Go.Proofs.YtdjnjmekdjcbaaaDoor
