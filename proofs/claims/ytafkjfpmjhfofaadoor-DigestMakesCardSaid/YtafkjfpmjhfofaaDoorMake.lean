/-
  Make: the manifest and the pieces of an object.
-/
import Derived.Test.YtafkjfpmjhfofaaDoorMkR
import Derived.Deep.DeepCutAuto
namespace Go.Proofs.YtafkjfpmjhfofaaDoor
open Go Go.RowKit
set_option linter.unusedVariables false

theorem encM_length (d : List Nat) (k L i : Nat) : (encP d k L i).length = L := by
  unfold encP
  split
  · exact spl_length _ _ _
  · exact mixL_length _ _ _ _
theorem encM_lt (d : List Nat) (hd : ∀ i, d.getD i 0 < 256) (k L i : Nat) : ∀ n ∈ encP d k L i, n < 256 := by
  unfold encP
  split
  · intro n hn
    unfold spl at hn
    obtain ⟨c, _, rfl⟩ := List.mem_map.1 hn
    exact hd _
  · exact mixL_lt _ _ _ _ (fun i => getD_lt (wts_lt _ _ _) i)

theorem results_cell3 {fn : Func} {p u x : Tmp} {ty : TypeId} (h : fn.results = #[.cell p ty, .tmp u, .tmp x]) (tmps : Array Value) (P : Program) (w : World) :
    (results fn tmps).run P w = ((asAddr (tmps.getD p undef)).run P w).andThen fun a w₁ => ((loadVar ty a).run P w₁).andThen fun v w₂ => .ok (.tuple #[v, tmps.getD u undef, tmps.getD x undef]) w₂ := by
  simp only [results, h]
  simp [Sem.run_bind, Result.andThen]
theorem results_at3 {fn : Func} {p u x : Tmp} {ty : TypeId} (h : fn.results = #[.cell p ty, .tmp u, .tmp x]) {tmps : Array Value} {P : Program} {w : World} {ad : Addr} {v y z : Value} (hp : tmps.getD p undef = .pointer (some ad)) (hv : (loadVar ty ad).run P w = .ok v w) (hy : tmps.getD u undef = y) (hz : tmps.getD x undef = z) :
    (results fn tmps).run P w = .ok (.tuple #[v, y, z]) w := by
  rw [results_cell3 h, hp, hy, hz]
  simp [asAddr, hv, Result.andThen]
/-- the digest of piece j -/
def pdg (KC SH l : List Nat) (k L j : Nat) : List Nat := dig KC SH ([j / 256, j % 256] ++ encP l k L j)
/-- what the loop of Make keeps -/
structure MkI (fb rb mb g gd k n t m L : Nat) (KC SH l : List Nat) (bf : Nat → Nat) (w wr : World) (i : Nat) : Prop where
  pcs : Pcs wr g w.heap.size t L bf (encP l k L)
  man : ManAt wr mb k n t m (dig KC SH l) (.slice (some ⟨gd, 0, none⟩) t t)
  rng : ∀ j, j < i → wr.rangeAt gd (j * 32) (u8s (pdg KC SH l k L j))
  th : wr.there gd 0 (t * 32)
  gdl : gd < wr.heap.size
  built : Built wr fb
  kept : Kept fb w wr
  vars : Vars wr KC SH
  res : wr.heap[rb]? = some (.cells (mcells 0 0 0 0 (List.replicate 32 0) (.slice none 0 0)).toArray 27 (0, 0))
structure MkN (fb rb mb g gd t : Nat) (bf : Nat → Nat) (w : World) : Prop where
  ne : gd ≠ g ∧ gd ≠ mb ∧ gd ≠ fb ∧ gd ≠ rb ∧ mb ≠ rb
  low : w.heap.size ≤ gd ∧ w.heap.size ≤ mb ∧ w.heap.size ≤ g ∧ w.heap.size ≤ rb ∧ 3 ≤ w.heap.size ∧ fb < w.heap.size
  bfn : ∀ j, j < t → bf j ≠ gd
  gr : g ≠ rb
  bfr : ∀ j, j < t → bf j ≠ rb
theorem MkI.below {fb rb mb g gd k n t m L : Nat} {KC SH l : List Nat} {bf : Nat → Nat} {w wr w' : World} {i : Nat} (h : MkI fb rb mb g gd k n t m L KC SH l bf w wr i) (b : Below wr.heap.size wr w') : MkI fb rb mb g gd k n t m L KC SH l bf w w' i :=
  ⟨h.pcs.below b, (b.block _ (lt_of_heap h.man)).trans h.man, fun j hj => range_same (h.rng j hj) (b.block _ h.gdl), there_same h.th (b.block _ h.gdl), Nat.lt_of_lt_of_le h.gdl b.size, h.built.below b h.built.lt, h.kept.trans (Kept.of_below b), h.vars.below b, (b.block _ (lt_of_heap h.res)).trans h.res⟩
/-- what Make leaves -/
structure MkR (fb mb g gd k t m L : Nat) (KC SH l : List Nat) (bf : Nat → Nat) (w wr : World) : Prop where
  pcs : Pcs wr g w.heap.size t L bf (encP l k L)
  rng : ∀ j, j < t → wr.rangeAt gd (j * 32) (u8s (pdg KC SH l k L j))
  th : wr.there gd 0 (t * 32)
  gdl : gd < wr.heap.size
  built : Built wr fb
  kept : Kept fb w wr
  vars : Vars wr KC SH
theorem MkI.last {fb rb mb g gd k n t m L : Nat} {KC SH l : List Nat} {bf : Nat → Nat} {w wr w' : World} (h : MkI fb rb mb g gd k n t m L KC SH l bf w wr t) (N : MkN fb rb mb g gd t bf w) (b : Kept rb wr w') (hr : rb = w.heap.size) : MkR fb mb g gd k t m L KC SH l bf w w' := by
  obtain ⟨n1, n2, n3, n4, n5⟩ := N.ne
  obtain ⟨l1, l2, l3, l4, l5, l6⟩ := N.low
  exact ⟨⟨(b.block g h.pcs.own.lt N.gr).trans h.pcs.own, fun j hj => (b.block (bf j) (h.pcs.row j hj).lt (N.bfr j hj)).trans (h.pcs.row j hj), h.pcs.low, h.pcs.inj, h.pcs.notb⟩, fun j hj => range_same (h.rng j hj) (b.block gd h.gdl n4), there_same h.th (b.block gd h.gdl n4), Nat.lt_of_lt_of_le h.gdl b.size, (b.block fb h.built.lt (by omega)).trans h.built, h.kept.fresh b (by omega), h.vars.kept b (by omega)⟩
theorem MkI.store {fb rb mb g gd k n t m L : Nat} {KC SH l : List Nat} {bf : Nat → Nat} {w wr : World} {i : Nat} (h : MkI fb rb mb g gd k n t m L KC SH l bf w wr i) (N : MkN fb rb mb g gd t bf w) (hi : i < t) (hd : (u8s (pdg KC SH l k L i)).length = 32) : MkI fb rb mb g gd k n t m L KC SH l bf w (wr.setCells gd (i * 32) (u8s (pdg KC SH l k L i))) (i + 1) := by
  obtain ⟨n1, n2, n3, n4, n5⟩ := N.ne
  obtain ⟨l1, l2, l3, l4, l5, l6⟩ := N.low
  have hb : ∀ q, q ≠ gd → (wr.setCells gd (i * 32) (u8s (pdg KC SH l k L i))).heap[q]? = wr.heap[q]? := fun q hq => setCells_heap gd _ _ _ q hq
  refine ⟨⟨?_, ?_, h.pcs.low, h.pcs.inj, h.pcs.notb⟩, ?_, ?_, World.there_setCells h.th _ _ _, by rw [setCells_size]; exact h.gdl, (hb fb (fun e => n3 e.symm)).trans h.built, h.kept.fresh (setCells_kept gd _ _ _) l1, h.vars.kept (setCells_kept gd _ _ _) (by omega), (hb rb (fun e => n4 e.symm)).trans h.res⟩
  · exact (hb g (fun e => n1 e.symm)).trans h.pcs.own
  · intro j hj; exact (hb (bf j) (N.bfn j hj)).trans (h.pcs.row j hj)
  · exact (hb mb (fun e => n2 e.symm)).trans h.man
  · intro j hj
    by_cases e : j = i
    · subst e
      exact World.rangeAt_setCells_same _ _ _ _ (there_sub h.th _ _ (by rw [hd]; omega))
    · exact World.rangeAt_setCells_apart (h.rng j (by omega)) _ _ _ (.inr (.inl (by
        have : (u8s (pdg KC SH l k L j)).length = 32 := by simp [u8s, pdg, dig_length]
        omega)))

set_option maxRecDepth 100000 in
set_option maxHeartbeats 2000000 in
theorem Make_any (fb k n t m c : Nat) (a : Option Addr) (KC SH l : List Nat) (w : World) (hF : Fld w fb) (V : Vars w KC SH) (hd : Bs w (.slice a m c) l) (hoff : Off fb (.slice a m c)) (hmc : m ≤ c) (h1 : 1 ≤ k) (h2 : k ≤ n) (h3 : n ≤ t) (h4 : t ≤ 255) (h5 : m ≤ 8192) (hfb : 3 ≤ fb) :
    Calls Tryd.prog 13 #[.pointer (some ⟨fb, 0, none⟩), .int .i64 k, .int .i64 n, .int .i64 t, .slice a m c] w fun e w' => ∃ rb mb g gd bf, MkN fb rb mb g gd t bf w ∧ e = .returned (.tuple #[.agg (mcells k n t m (dig KC SH l) (.slice (some ⟨gd, 0, none⟩) t t)).toArray, .slice (some ⟨g, 0, none⟩) t t, .int .i64 0]) ∧ MkR fb mb g gd k t m (plen k m) KC SH l bf w w' := by
  have HL := hid hd
  have HO := hid hoff
  have hvc : vcB k n t = true := by unfold vcB; exact decide_eq_true ⟨by omega, by omega, by omega, by omega⟩
  have HVC := hid hvc
  have hnot : ∀ (x : Bool) (w : World), (Op.unary .not (.bool x)).run Tryd.prog w = .ok (.bool (!x)) w := fun _ _ => rfl
  have hfl := hF.lt
  have hvlt := V.lt
  obtain ⟨w1, hw1⟩ : ∃ w1, w1 = w.alloc (.cells (mcells 0 0 0 0 (List.replicate 32 0) (.slice none 0 0)).toArray 27) := ⟨_, rfl⟩
  have hb1 : Below w.heap.size w w1 := by rw [hw1]; exact (Below.refl _ _).alloc (Nat.le_refl _) _
  have hs1 : w1.heap.size = w.heap.size + 1 := by rw [hw1]; simp
  have HR1 := hid (show w1.heap[w.heap.size]? = some (.cells (mcells 0 0 0 0 (List.replicate 32 0) (.slice none 0 0)).toArray 27 (0, 0)) from by rw [hw1]; exact heap_new _ _)
  have HF1 := hid (show Fld w1 fb from by rw [hw1]; exact hF.alloc _)
  have HL1 := hid (hd.below hb1)
  have HV1 := hid (V.below hb1)
  have HB1 := hid hb1
  have HENC := hid (Encode_any fb k t a m c l w1 HF1.out HL1.out hoff hmc h1 (by omega) h4 h5)
  clear V hd hF hoff hvc hb1
  go_enter Tryd.func13, Tryd.ntmps13
  go_wp2_with fail
  refine (validCounts_any k n t _).mono ?_
  rw [HVC.out]
  rintro e w' ⟨rfl, rfl⟩
  go_wp2_with fail
  change Calls _ _ _ (w.alloc (.cells (mcells 0 0 0 0 (List.replicate 32 0) (.slice none 0 0)).toArray 27)) _
  rw [← hw1]
  clear hw1
  refine HENC.out.mono ?_
  clear HENC
  rintro e w2 ⟨g, bf, hg, rfl, hP, hB, hK⟩
  have hle : w.heap.size ≤ w1.heap.size := by omega
  have HP2 := hid (show Pcs w2 g w.heap.size t (plen k m) bf (encP l k (plen k m)) from ⟨hP.own, hP.row, fun j hj => Nat.le_trans hle (hP.low j hj), hP.inj, hP.notb⟩)
  have HBF := hid (show ∀ j, j < t → bf j < w2.heap.size ∧ w.heap.size < bf j from fun j hj => ⟨(hP.row j hj).lt, by have := hP.low j hj; omega⟩)
  have hgr : w.heap.size < g := by omega
  have HGL := hP.own.lt
  have HBU := hid hB
  have HK2 := hid ((Kept.of_below HB1.out).trans hK)
  have HV2 := hid (HV1.out.kept hK hfb)
  have HL2 := hid (HL1.out.kept hK HO.out)
  have HR2 := hid ((hK.block w.heap.size (by omega) (by omega)).trans HR1.out)
  have hs2 := hK.size
  have hg2 : w.heap.size ≤ g := by omega
  clear hP hB hK HV1 HL1 HR1 HF1 HB1 hg
  have HSHA := hid (fun (wx : World) (b : Below w2.heap.size w2 wx) => SHA256_any a m c KC SH l wx (HV2.out.below b) (HL2.out.below b) hmc (by omega))
  have HDL := hid (dig_length KC SH l)
  generalize hD : dig KC SH l = D at *
  have HD := hid (fun (_ : Unit) => hD)
  clear hD
  go_upto_region 8 with fail
  refine mk_region _ _ _ (fun s _ _ _ _ h => by cases s <;> exact h) k n t m c a D HDL.out (by omega) rfl rfl rfl rfl rfl HSHA.out (fun v45 v47 v48 pv w8 hC => ?_)
  obtain ⟨mb, gd, rfl, hman, hth, hb8, hmg, hgg, hne, hgl⟩ := hC
  have HN := hid (show MkN fb w.heap.size mb g gd t bf w from ⟨⟨by omega, hne, by omega, by omega, by omega⟩, ⟨by omega, by omega, hg2, Nat.le_refl _, by omega, hfl⟩, fun j hj => by have := HBF.out j hj; omega, by omega, fun j hj => by have := HBF.out j hj; omega⟩)
  have HI := hid (show MkI fb w.heap.size mb g gd k n t m (plen k m) KC SH l bf w w8 0 from ⟨HP2.out.below hb8, by rw [HD.out ()]; exact hman, fun j hj => absurd hj (Nat.not_lt_zero _), hth, hgl, HBU.out.below hb8 HBU.out.lt, HK2.out.trans (Kept.of_below hb8), HV2.out.below hb8, (hb8.block _ (by omega)).trans HR2.out⟩)
  have hmb : mb < w8.heap.size := lt_of_heap hman
  clear hman hth hb8 HBU HK2 HV2 HL2 HR2 HP2 HSHA
  go_wp2
  go_loopw [51] (fun iv wr => ∃ i : Nat, i ≤ t ∧ iv = .int .i64 i ∧ Hid (MkI fb w.heap.size mb g gd k n t m (plen k m) KC SH l bf w wr i)) (fun iv _ => t - (intOf iv).toNat)
  case atStart => exact ⟨0, by omega, rfl, HI⟩
  case round =>
    clear HI
    obtain ⟨i, hi, rfl, HI⟩ := hrel
    by_cases hit : i < t
    · have hI : (i : Int) < (t : Int) := by omega
      have hps := HI.out.pcs.own
      have hlp : i < (mkps bf (plen k m) t t).length := by rw [mkps_length]; exact hit
      have c0 := hps.cell0 i hlp
      have c1 := hps.cell1 i hlp
      rw [mkps_get _ _ _ _ _ hlp hit] at c0 c1
      have d36 : wr.cell? ⟨mb, 36, none⟩ = some (.slice (some ⟨gd, 0, none⟩) t t) := (HI.out.man.c (dig_length _ _ _)).2.2.2.2
      clear hps hlp
      have hil : i < 65536 := by omega
      have HBS := hid (show Bs wr (.slice (some ⟨bf i, 0, none⟩) (plen k m) (plen k m)) (encP l k (plen k m) i) ∧ plen k m ≤ 800000000 from by
        have h7 := (HI.out.pcs.row i hit).bs (encM_lt l HL.out.lt k (plen k m) i) (plen k m)
        rw [encM_length] at h7
        exact ⟨h7, by have := plen_le k m h1; omega⟩)
      generalize hL : plen k m = L at *
      have HLL := hid (fun (_ : Unit) => hL)
      clear hL
      generalize hbi : bf i = bi at *
      have HBI := hid (fun (_ : Unit) => hbi)
      clear hbi
      obtain ⟨wq, hwq⟩ : ∃ x, x = wr.alloc (.cells #[.int .i64 (i : Int), .slice (some ⟨bi, 0, none⟩) L L] 43) := ⟨_, rfl⟩
      have hbq : Below wr.heap.size wr wq := by rw [hwq]; exact (Below.refl _ _).alloc (Nat.le_refl _) _
      have HIQ := hid (HI.out.below hbq)
      have q0 : wq.cell? ⟨wr.heap.size, 0, none⟩ = some (.int .i64 (i : Int)) := by rw [hwq, cell_of_heap (heap_new _ _)]; rfl
      have q1 : wq.cell? ⟨wr.heap.size, 1, none⟩ = some (.slice (some ⟨bi, 0, none⟩) L L) := by rw [hwq, cell_of_heap (heap_new _ _)]; rfl
      have q36 : wq.cell? ⟨mb, 36, none⟩ = some (.slice (some ⟨gd, 0, none⟩) t t) := (HIQ.out.man.c (dig_length _ _ _)).2.2.2.2
      have K0 := hid (show wq.drew.cell? ⟨mb, 36, none⟩ = some (.slice (some ⟨gd, 0, none⟩) t t) ∧ wq.drew.cell? ⟨wr.heap.size, 0, none⟩ = some (.int .i64 (i : Int)) ∧ wq.drew.cell? ⟨wr.heap.size, 1, none⟩ = some (.slice (some ⟨bi, 0, none⟩) L L) from ⟨q36, q0, q1⟩)
      have hsz : wr.heap.size < wq.heap.size := by rw [hwq]; simp
      have HPD := hid (fun (wx : World) (b : Below wq.heap.size wq wx) => PieceDigest_any i hil (some ⟨bi, 0, none⟩) L L KC SH (encP l k L i) wx (HIQ.out.vars.below b) ((HBS.out.1.below hbq).below b) (Nat.le_refl _) HBS.out.2)
      have HKE := hid (fun (wx : World) (b : Below wq.heap.size wq wx) => (show wx.cell? ⟨mb, 36, none⟩ = some (.slice (some ⟨gd, 0, none⟩) t t) ∧ wx.cell? ⟨wr.heap.size, 0, none⟩ = some (.int .i64 (i : Int)) ∧ wx.cell? ⟨wr.heap.size, 1, none⟩ = some (.slice (some ⟨bi, 0, none⟩) L L) from ⟨(b.cell (p := ⟨mb, 36, none⟩) (lt_of_heap HIQ.out.man)).trans q36, (b.cell (p := ⟨wr.heap.size, 0, none⟩) hsz).trans q0, (b.cell (p := ⟨wr.heap.size, 1, none⟩) hsz).trans q1⟩))
      have hgr : wr.heap.size ≠ gd := fun e => by have := HI.out.gdl; omega
      have hgm : mb ≠ gd := fun e => HN.out.ne.2.1 e.symm
      have HKS := hid (fun (wx : World) (b : Below wq.heap.size wq wx) (cs : List Value) => (show (wx.setCells gd (i * 32) cs).cell? ⟨mb, 36, none⟩ = some (.slice (some ⟨gd, 0, none⟩) t t) ∧ (wx.setCells gd (i * 32) cs).cell? ⟨wr.heap.size, 0, none⟩ = some (.int .i64 (i : Int)) ∧ (wx.setCells gd (i * 32) cs).cell? ⟨wr.heap.size, 1, none⟩ = some (.slice (some ⟨bi, 0, none⟩) L L) from
        ⟨(World.cell?_of_block (a := ⟨mb, 36, none⟩) (setCells_heap gd cs _ wx mb hgm)).trans (HKE.out wx b).1, (World.cell?_of_block (a := ⟨wr.heap.size, 0, none⟩) (setCells_heap gd cs _ wx wr.heap.size hgr)).trans (HKE.out wx b).2.1, (World.cell?_of_block (a := ⟨wr.heap.size, 1, none⟩) (setCells_heap gd cs _ wx wr.heap.size hgr)).trans (HKE.out wx b).2.2⟩))
      clear d36 q36 q0 q1
      have hE32 := dig_length KC SH ([i / 256, i % 256] ++ encP l k L i)
      have HEQ := hid (fun (_ : Unit) => (show dig KC SH ([i / 256, i % 256] ++ encP l k L i) = pdg KC SH l k L i from rfl))
      generalize dig KC SH ([i / 256, i % 256] ++ encP l k L i) = E at *
      have e1 : ∀ v, v ∈ u8s E → v.oneCell' = true := u8s_oneH E
      have hE32' : (u8s E).length = 32 := by simp [u8s, hE32]
      have e3 : Option.map (fun x => x.size) (Tryd.prog.info? 24) = some (u8s E).length := by rw [hE32']; kernel_rfl
      have HTH := hid (fun (wx : World) (b : Below wq.heap.size wq wx) => (show wx.there gd (i * 32) (u8s E).length from there_sub (there_same HIQ.out.th (b.block _ HIQ.out.gdl)) _ _ (by rw [hE32']; omega)))
      have HE32 := hid hE32'
      clear hE32 hE32'
      go_wp2
      change Code.wp _ _ _ _ (wr.alloc (.cells #[.int .i64 (i : Int), .slice (some ⟨bi, 0, none⟩) L L] 43))
      rw [← hwq]
      clear hwq c0 c1
      go_region_held3 (fun w' => w'.cell? ⟨mb, 36, none⟩ = some (.slice (some ⟨gd, 0, none⟩) t t) ∧ w'.cell? ⟨wr.heap.size, 0, none⟩ = some (.int .i64 (i : Int)) ∧ w'.cell? ⟨wr.heap.size, 1, none⟩ = some (.slice (some ⟨bi, 0, none⟩) L L))
        (first | exact K0.out | exact K1.out | exact K2.out _)
        (first | (go_at_call 18
                  refine (HPD.out _ (bel_drewN (Below.refl _ _) 1)).mono ?_
                  rintro e w5 ⟨rfl, hb5⟩
                  have hb6 : Below wq.heap.size wq w5 := ⟨hb5.os, hb5.tape, hb5.output, hb5.size, hb5.block⟩
                  have K1 := hid (HKE.out w5 hb6)
                  have K2 := hid (HKS.out w5 hb6)
                  have e2 := HTH.out w5 hb6))
      have hst := (HIQ.out.below hb6).store HN.out hit (by rw [← HEQ.out ()]; exact HE32.out)
      rw [← HEQ.out ()] at hst
      have HST := hid hst
      clear hst e1 e2 e3 hb5
      go_wp2
      exact ⟨⟨i + 1, by omega, by go_num, HST⟩, by simp [intOf]; omega⟩
    · obtain rfl : i = t := by omega
      have HRA := hid (show wr.rangeAt mb 0 (mcells k n i m (dig KC SH l) (.slice (some ⟨gd, 0, none⟩) i i)) from fun j v hj => by
        rw [Nat.zero_add, cell_of_heap HI.out.man, List.getElem?_toArray]
        exact hj)
      have hd32 := dig_length KC SH l
      have HML := hid (mcells_length k n i m (dig KC SH l) (.slice (some ⟨gd, 0, none⟩) i i) hd32)
      have HON := hid (mcells_one k n i m (dig KC SH l) (some ⟨gd, 0, none⟩) i i)
      have HX := hid (fun (w' : World) (b : Kept w.heap.size wr w') => HI.out.last HN.out b rfl)
      generalize hM : mcells k n i m (dig KC SH l) (.slice (some ⟨gd, 0, none⟩) i i) = M at *
      have HIF := hid (show (Tryd.prog.info? 27).map (·.size) = some M.length from by rw [HML.out]; kernel_rfl)
      have HIF2 := hid (show (Tryd.prog.info? 27).map (·.size) = some M.toArray.size from by rw [List.size_toArray, HML.out]; kernel_rfl)
      have HSZ := hid (show (mcells 0 0 0 0 (List.replicate 32 0) (.slice none 0 0)).toArray.size = M.toArray.size from by rw [show M.toArray.size = 37 from by rw [List.size_toArray, HML.out]]; rfl)
      have HMM := hid (fun (_ : Unit) => hM)
      have hI : ¬ ((i : Int) < (i : Int)) := by omega
      clear hM hd32
      go_wp2_with (first
        | (refine wpList_load_mid (by rfl) 27 (.tmp 15) (by rfl) mb 0 (by rfl) M _ HRA.out Tryd.underlying27 rfl HIF.out ?_)
        | (refine wpList_store_row (by rfl) 27 (.tmp 10) (.tmp 66) (by rfl) w.heap.size _ M.toArray _ (by rfl) (by rfl) HI.out.res HIF2.out HSZ.out HON.out ?_
           intro w9 hw9 hk9))
      have hres : (loadVar 27 ⟨w.heap.size, 0, none⟩).run Tryd.prog w9 = .ok (.agg M.toArray) w9 := run_loadVar_row _ _ 27 27 _ (0, 0) _ hw9 Tryd.underlying27 rfl HIF2.out
      refine bodyPost_ret (v := .tuple #[.agg M.toArray, .slice (some ⟨g, 0, none⟩) i i, .int .i64 0]) (results_at3 Tryd.results13 rfl hres rfl rfl) rfl ?_
      refine ⟨w.heap.size, mb, g, gd, bf, HN.out, ?_, ?_⟩
      · rw [← HMM.out ()]
      · exact HX.out w9 hk9
end Go.Proofs.YtafkjfpmjhfofaaDoor
