/-
  Decode: the object that pieces determine; its errors. · The reference's value: the bytes of any piece, from the first k of a list of pieces. · The reference's check of a list of pieces. · The reference's Join: the object that pieces determine; its errors.
-/
import Derived.Test.YtehjikogdaclgaaDoorBb14
import Derived.Test.YtehjikogdaclgaaDoorBb4
import Derived.Test.YtehjikogdaclgaaDoorBb10
import Derived.Deep.RegionHeld3
import Derived.Test.YtehjikogdaclgaaDoorBb12
namespace Go.Proofs.YtehjikogdaclgaaDoor
open Go Go.RowKit
set_option linter.unusedVariables false

/-- pieces that a call may read, whatever the field's block becomes -/
def Held (fb : Nat) (w : World) (v : Value) (ps : List (Int × Sl)) (D : Nat → List Nat) : Prop :=
  ∀ w', Kept fb w w' → Ps w' v ps ∧ ∀ i, (h : i < ps.length) → Bs w' (.slice ps[i].2.1 ps[i].2.2.1 ps[i].2.2.2) (D i)
theorem Held.step {fb : Nat} {w w' : World} {v : Value} {ps : List (Int × Sl)} {D : Nat → List Nat} (h : Held fb w v ps D) (k : Kept fb w w') : Held fb w' v ps D := fun w2 k2 => h w2 (k.trans k2)
theorem Held.now {fb : Nat} {w : World} {v : Value} {ps : List (Int × Sl)} {D : Nat → List Nat} (h : Held fb w v ps D) : Ps w v ps ∧ ∀ i, (h : i < ps.length) → Bs w (.slice ps[i].2.1 ps[i].2.2.1 ps[i].2.2.2) (D i) := h w (Kept.refl _ _)
theorem Held.len {fb : Nat} {w : World} {a : Option Addr} {n c : Nat} {ps : List (Int × Sl)} {D : Nat → List Nat} (h : Held fb w (.slice a n c) ps D) : n = ps.length := by
  obtain ⟨_, _, h1, _⟩ := h.now.1
  simp at h1
  exact h1.2.1
theorem Held.data {fb : Nat} {w : World} {v : Value} {ps : List (Int × Sl)} {D : Nat → List Nat} (h : Held fb w v ps D) (i : Nat) (hi : i < ps.length) : (D i).length = plen' ps i := by
  have h1 := (h.now.2 i hi).len
  rw [plen_at] at h1
  exact h1.symm

theorem Decode_size (fb : Nat) (k t : Int) (size : Int) (a : Option Addr) (n c : Nat) (h : ¬ (1 ≤ k ∧ k ≤ t ∧ t ≤ 255 ∧ 0 ≤ size ∧ size ≤ 8192)) (w : World) :
    Calls Tryd.prog 28 #[.pointer (some ⟨fb, 0, none⟩), .int .i64 k, .int .i64 t, .int .i64 size, .slice a n c] w fun e w' => e = .returned (.tuple #[.slice none 0 0, .int .i64 2]) ∧ Below w.heap.size w w' := by
  have hnot : ∀ (x : Bool) (w : World), (Op.unary .not (.bool x)).run Tryd.prog w = .ok (.bool (!x)) w := fun _ _ => rfl
  by_cases h1 : 1 ≤ k ∧ k ≤ t ∧ t ≤ 255
  · obtain ⟨a1, a2, a3⟩ := h1
    have H := hid (show ¬ (1 ≤ k ∧ k ≤ 255 ∧ 0 ≤ size ∧ size ≤ 8192) from fun hh => h ⟨a1, a2, a3, hh.2.2.1, hh.2.2.2⟩)
    clear h
    go_enter Tryd.func28, Tryd.ntmps28
    go_wp2_with fail
    refine (size_bad k size H.out _).mono ?_
    rintro e w' ⟨rfl, rfl⟩
    go_wp2_with fail
    refine (valid_yes k t a1 a2 a3 _).mono ?_
    rintro e w' ⟨rfl, rfl⟩
    go_wp2
    go_ret2
    exact ⟨rfl, (Below.refl _ _).alloc (Nat.le_refl _) _⟩
  · have H := hid h1
    clear h h1
    have hps : ∃ x y : Int, ∀ w : World, Calls Tryd.prog 39 #[.int .i64 k, .int .i64 size] w fun e w' => e = .returned (.tuple #[.int .i64 x, .int .i64 y]) ∧ w = w' := by
      by_cases h2 : 1 ≤ k ∧ k ≤ 255 ∧ 0 ≤ size ∧ size ≤ 8192
      · obtain ⟨b1, b2, b3, b4⟩ := h2
        obtain ⟨kn, rfl⟩ : ∃ m : Nat, k = m := ⟨k.toNat, by omega⟩
        obtain ⟨sn, rfl⟩ : ∃ m : Nat, size = m := ⟨size.toNat, by omega⟩
        exact ⟨_, _, fun w => size_ok kn sn (by omega) (by omega) (by omega) w⟩
      · exact ⟨_, _, fun w => size_bad k size h2 w⟩
    obtain ⟨x, y, hps⟩ := hps
    have HPS := hid hps
    clear hps
    go_enter Tryd.func28, Tryd.ntmps28
    go_wp2_with fail
    refine (HPS.out _).mono ?_
    rintro e w' ⟨rfl, rfl⟩
    go_wp2_with fail
    refine (valid_no k t H.out _).mono ?_
    rintro e w' ⟨rfl, rfl⟩
    go_wp2
    go_ret2
    exact ⟨rfl, (Below.refl _ _).alloc (Nat.le_refl _) _⟩

theorem Decode_err (fb k t size : Nat) (a : Option Addr) (n c : Nat) (ps : List (Int × Sl)) (h1 : 1 ≤ k) (h2 : k ≤ t) (h3 : t ≤ 255) (h4 : size ≤ 8192) (hn : n ≤ 100000) (w : World) (hp : Ps w (.slice a n c) ps)
    (hne : chkAll k t (pidx ps) (fun i => if ((plen' ps i : Nat) : Int) = (plen k size : Nat) then 0 else 10) n ≠ 0) :
    Calls Tryd.prog 28 #[.pointer (some ⟨fb, 0, none⟩), .int .i64 k, .int .i64 t, .int .i64 size, .slice a n c] w fun e w' => e = .returned (.tuple #[.slice none 0 0, .int .i64 (chkAll k t (pidx ps) (fun i => if ((plen' ps i : Nat) : Int) = (plen k size : Nat) then 0 else 10) n)]) ∧ Below w.heap.size w w' := by
  have hnot : ∀ (x : Bool) (w : World), (Op.unary .not (.bool x)).run Tryd.prog w = .ok (.bool (!x)) w := fun _ _ => rfl
  have hmf : ∀ (fn : Fn) (first cap : Array Value) (w : World), (Instr.makeFunc fn first cap).run Tryd.prog w = .ok (.func fn first cap) w := fun _ _ _ _ => rfl
  have bn : (chkAll k t (pidx ps) (fun i => if ((plen' ps i : Nat) : Int) = (plen k size : Nat) then 0 else 10) n != 0) = true := by simpa using hne
  have HP := hid hp
  have hc := fun w0 h0 hw0 => chkD_any (k : Int) (t : Int) a n c w.heap.size (plen k size : Nat) ps w0 (by omega) (HP.out.below h0) hw0
  have HC := hid hc
  clear hp hne hc
  generalize chkAll k t (pidx ps) (fun i => if ((plen' ps i : Nat) : Int) = (plen k size : Nat) then 0 else 10) n = ee at *
  go_enter Tryd.func28, Tryd.ntmps28
  go_wp2_with fail
  refine (size_ok k size h1 (by omega) h4 _).mono ?_
  rintro e w' ⟨rfl, rfl⟩
  go_wp2_with fail
  refine (valid_yes k t (by omega) (by omega) (by omega) _).mono ?_
  rintro e w' ⟨rfl, rfl⟩
  go_wp2_with fail
  refine (HC.out _ ((Below.refl _ _).alloc (Nat.le_refl _) _) (by simp [World.cell?_alloc_new]) (by simp) hn).mono ?_
  rintro e w5 ⟨rfl, hb⟩
  go_wp2
  go_ret2
  exact ⟨rfl, ((Below.refl _ _).alloc (Nat.le_refl _) _).trans (hb.mono (by simp))⟩

theorem rmap_getD (f : Nat → List Nat) (n i : Nat) (h : i < n) : ((List.range n).map f).getD i [] = f i := by
  rw [List.getD_eq_getElem?_getD, List.getElem?_map, List.getElem?_range h]; rfl
/-- what the loop of Decode keeps -/
structure DecI (fb pb sb xb ob b o k c size L : Nat) (ps : List (Int × Sl)) (l : List Nat) (D : List (List Nat)) (W w : World) (i : Nat) : Prop where
  built : Built w fb
  rd : Ps w (.slice (some ⟨b, o, none⟩) k c) ps
  dat : ∀ i, (h : i < ps.length) → Bs w (.slice ps[i].2.1 ps[i].2.2.1 ps[i].2.2.2) (D.getD i []) ∧ (D.getD i []).length = L
  pl : Own w pb l
  sc : Own w sb (scales l)
  box : w.heap[xb]? = some (Obj.cells #[Value.slice (some ⟨b, o, none⟩) k c, Value.pointer (some ⟨fb, 0, none⟩), Value.slice (some ⟨pb, 0, none⟩) k k, Value.slice (some ⟨sb, 0, none⟩) k k] 101)
  out : Own w ob (upTo size (joinF D l L k) (min (i * L) size))
  kept : Kept fb W w
  ne : fb < ob ∧ pb < ob ∧ sb < ob ∧ xb < ob ∧ W.heap.size ≤ ob
  far : ∀ w2, Below ob w w2 → Ps w2 (.slice (some ⟨b, o, none⟩) k c) ps ∧ ∀ i, (h : i < ps.length) → Bs w2 (.slice ps[i].2.1 ps[i].2.2.1 ps[i].2.2.2) (D.getD i []) ∧ (D.getD i []).length = L
theorem DecI.step {fb pb sb xb ob b o k c size L : Nat} {ps : List (Int × Sl)} {l : List Nat} {D : List (List Nat)} {W w w2 : World} {i i' : Nat} (h : DecI fb pb sb xb ob b o k c size L ps l D W w i) (kk : Below ob w w2) (ho : Own w2 ob (upTo size (joinF D l L k) (min (i' * L) size))) : DecI fb pb sb xb ob b o k c size L ps l D W w2 i' := by
  obtain ⟨n1, n2, n3, n4, n5⟩ := h.ne
  have hk : ∀ q x, w.heap[q]? = some x → q < ob → w2.heap[q]? = some x := fun q x hq hlt => (kk.block q hlt).trans hq
  obtain ⟨f1, f2⟩ := h.far w2 kk
  refine ⟨hk _ _ h.built n1, f1, f2, hk _ _ h.pl n2, hk _ _ h.sc n3, hk _ _ h.box n4, ho, ?_, h.ne, fun w3 k3 => h.far w3 (kk.trans k3)⟩
  exact ⟨kk.os.trans h.kept.os, kk.tape.trans h.kept.tape, kk.output.trans h.kept.output, Nat.le_trans h.kept.size kk.size, fun q hq hqb => (kk.block q (by omega)).trans (h.kept.block q hq hqb)⟩

set_option maxRecDepth 100000 in
set_option maxHeartbeats 4000000 in
theorem Decode_ok (fb k t size : Nat) (a : Option Addr) (n c : Nat) (ps : List (Int × Sl)) (D : Nat → List Nat) (h1 : 1 ≤ k) (h2 : k ≤ t) (h3 : t ≤ 255) (h4 : size ≤ 8192) (hn : n ≤ 100000) (hnc : n ≤ c) (w : World) (hF : Fld w fb) (hH : Held fb w (.slice a n c) ps D)
    (hz : chkAll k t (pidx ps) (fun i => if ((plen' ps i : Nat) : Int) = (plen k size : Nat) then 0 else 10) n = 0) :
    Calls Tryd.prog 28 #[.pointer (some ⟨fb, 0, none⟩), .int .i64 k, .int .i64 t, .int .i64 size, .slice a n c] w fun e w' => ∃ ob, w.heap.size ≤ ob ∧ e = .returned (.tuple #[.slice (some ⟨ob, 0, none⟩) size size, .int .i64 0]) ∧ Own w' ob (joinL ((List.range k).map D) (places ps k) (plen k size) k size) ∧ Built w' fb ∧ Kept fb w w' := by
  have hnot : ∀ (x : Bool) (w : World), (Op.unary .not (.bool x)).run Tryd.prog w = .ok (.bool (!x)) w := fun _ _ => rfl
  have hmf : ∀ (fn : Fn) (first cap : Array Value) (w : World), (Instr.makeFunc fn first cap).run Tryd.prog w = .ok (.func fn first cap) w := fun _ _ _ _ => rfl
  have hfit := fit_of hz
  have hkn : k ≤ n := by have := hfit.few; omega
  have hnp := hH.len
  obtain ⟨b, o, rfl⟩ : ∃ b o, a = some ⟨b, o, none⟩ := by
    obtain ⟨a', c', e1, e3⟩ := hH.now.1
    obtain ⟨b, o, ha, _⟩ := e3 (by intro e; rw [e] at hnp; simp at hnp; omega)
    simp at e1
    exact ⟨b, o, e1.1.trans ha⟩
  have hc := chkD_any (k : Int) (t : Int) (some ⟨b, o, none⟩) n c w.heap.size (plen k size : Nat) ps
  rw [hz] at hc
  have HC := hid hc
  have hlens : ∀ i, i < n → plen' ps i = plen k size := fun i hi => by
    have h5 := hfit.ok i hi
    by_cases e : ((plen' ps i : Nat) : Int) = (plen k size : Nat)
    · omega
    · rw [if_neg e] at h5; omega
  have HLENS := hid hlens
  have HFIT := hid hfit
  have HN := hid hnp
  have HF := hid hF
  have HH := hid hH
  have hfb0 := hF.lt
  have hLn := plen_le k size h1
  have HKL := hid (plen_ge k size h1)
  clear hF hH hz hc hnp hlens hfit
  generalize hL : plen k size = L at *
  have HL := hid hL
  clear hL
  go_enter Tryd.func28, Tryd.ntmps28
  go_wp2_with fail
  refine (size_ok k size h1 (by omega) h4 _).mono ?_
  rw [HL.out]
  rintro e w' ⟨rfl, rfl⟩
  go_wp2_with fail
  refine (valid_yes k t (by omega) (by omega) (by omega) _).mono ?_
  rintro e w' ⟨rfl, rfl⟩
  have hb1 : Below w.heap.size w (w.alloc (Obj.cells #[.int .i64 L] 3)) := (Below.refl _ _).alloc (Nat.le_refl _) _
  go_wp2_with fail
  refine (HC.out _ (by omega) (HH.out.now.1.below hb1) (by simp [World.cell?_alloc_new]) (by simp) hn).mono ?_
  rintro e w2 ⟨rfl, hb2⟩
  have hb12 : Below w.heap.size w w2 := hb1.trans (hb2.mono (by simp))
  have HB12 := hid hb12
  have hF2 : Fld w2 fb := HF.out.elim (fun h => .inl ((hb12.block _ hfb0).trans h)) (fun h => .inr ((hb12.block _ hfb0).trans h))
  clear hb1 hb2 hb12
  go_wp2_with fail
  refine (build_any fb _ hF2).mono ?_
  rintro e w3 ⟨rfl, hB3, hk3⟩
  have hK3 : Kept fb w w3 := (Kept.of_below HB12.out).trans hk3
  have HK3 := hid hK3
  have HH3 := hid (HH.out.step hK3)
  have HB3 := hid hB3
  clear hK3 hk3 hF2 hB3
  have hps3 := HH3.out.now.1.take hkn
  have HPS3 := hid hps3
  have hkp : k = (ps.take k).length := by rw [List.length_take, ← HN.out, Nat.min_eq_left hkn]
  have HKP := hid hkp
  have hcc : k ≤ c := by omega
  clear hps3 hkp
  have hpl := places_length ps k
  have HPL := hid hpl
  have hnum : ∀ i, (h : i < (ps.take k).length) → (ps.take k)[i].1 = (((places ps k).getD i 0 : Nat) : Int) := fun i h => by
    rw [← HKP.out] at h
    have h5 := HFIT.out.lo i (by omega)
    rw [List.getElem_take, pidx_at, places_getD ps k i h]
    omega
  have HNUM := hid hnum
  have HLT := hid (places_lt (k := k) HFIT.out (by omega))
  have HND := hid (places_nodup (k := k) HFIT.out)
  clear hnum hpl
  go_wp2_with fail
  refine (newSource_n fb b o c k (ps.take k) (places ps k) HKP.out _ HB3.out HPS3.out (by omega) (by omega) (by rw [HPL.out, ← HKP.out]) HNUM.out HLT.out HND.out).mono ?_
  rintro e w4 ⟨pb, sb, hpb, hsb, rfl, hopb, hosb, hb4⟩
  generalize hpls : places ps k = l at *
  have HPLS := hid hpls
  clear hpls
  have hdat : ∀ w', Kept fb w w' → ∀ i, (h : i < (ps.take k).length) → Bs w' (.slice (ps.take k)[i].2.1 (ps.take k)[i].2.2.1 (ps.take k)[i].2.2.2) (((List.range k).map D).getD i []) ∧ (((List.range k).map D).getD i []).length = L := fun w' hkk i h => by
    have h' := h
    rw [← HKP.out] at h'
    have hi2 : i < ps.length := by rw [← HN.out]; omega
    rw [rmap_getD _ _ _ h']
    simp only [List.getElem_take]
    exact ⟨(HH.out w' hkk).2 i hi2, by rw [HH.out.data i hi2]; exact HLENS.out i (by omega)⟩
  have HDAT := hid hdat
  have hsz := HB3.out.lt
  have hs4 := hb4.size
  have hs3 := HK3.out.size
  have hinv : DecI fb pb sb w4.heap.size (w4.heap.size + 1) b o k c size L (ps.take k) l ((List.range k).map D) w ((w4.alloc (Obj.cells #[Value.slice (some ⟨b, o, none⟩) k c, Value.pointer (some ⟨fb, 0, none⟩), Value.slice (some ⟨pb, 0, none⟩) k k, Value.slice (some ⟨sb, 0, none⟩) k k] 101)).alloc (zrow size)) 0 := by
    have hbb : Below w3.heap.size w3 ((w4.alloc (Obj.cells #[Value.slice (some ⟨b, o, none⟩) k c, Value.pointer (some ⟨fb, 0, none⟩), Value.slice (some ⟨pb, 0, none⟩) k k, Value.slice (some ⟨sb, 0, none⟩) k k] 101)).alloc (zrow size)) := (hb4.alloc (by omega) _).alloc (by simp; omega) _
    have hkk : Kept fb w ((w4.alloc (Obj.cells #[Value.slice (some ⟨b, o, none⟩) k c, Value.pointer (some ⟨fb, 0, none⟩), Value.slice (some ⟨pb, 0, none⟩) k k, Value.slice (some ⟨sb, 0, none⟩) k k] 101)).alloc (zrow size)) := HK3.out.trans (Kept.of_below hbb)
    have ho := own_zrow (w4.alloc (Obj.cells #[Value.slice (some ⟨b, o, none⟩) k c, Value.pointer (some ⟨fb, 0, none⟩), Value.slice (some ⟨pb, 0, none⟩) k k, Value.slice (some ⟨sb, 0, none⟩) k k] 101)) size
    rw [World.size_alloc, ← upTo_zero size (joinF ((List.range k).map D) l L k)] at ho
    have e0 : min (0 * L) size = 0 := by omega
    have hpl := hopb.lt
    have hsl := hosb.lt
    refine ⟨HB3.out.below hbb HB3.out.lt, HPS3.out.below hbb, HDAT.out _ hkk, (hopb.alloc _).alloc _, (hosb.alloc _).alloc _, heap_alloc (heap_new _ _) _, by rw [e0]; exact ho, hkk, by omega, fun w2 k2 => ?_⟩
    have k3 : Kept fb w w2 := ⟨k2.os.trans hkk.os, k2.tape.trans hkk.tape, k2.output.trans hkk.output, Nat.le_trans hkk.size k2.size, fun q hq hqb => (k2.block q (by omega)).trans (hkk.block q hq hqb)⟩
    exact ⟨(HH.out w2 k3).1.take hkn, HDAT.out w2 k3⟩
  have HINV := hid hinv
  have hmk := mk_u8 size (by omega)
  clear hinv hopb hosb hdat hb4
  go_wp2
  clear hmk
  go_loopw [16, 17, 53] (fun rv _ iv wr => ∃ (i : Nat) (ra : Option Addr), i ≤ k ∧ iv = .int .i64 i ∧ rv = .slice ra (size - min (i * L) size) (size - min (i * L) size) ∧ Hid (0 < size - min (i * L) size → ra = some ⟨w4.heap.size + 1, min (i * L) size, none⟩) ∧ Hid (DecI fb pb sb w4.heap.size (w4.heap.size + 1) b o k c size L (ps.take k) l ((List.range k).map D) w wr i)) (fun _ _ iv _ => k - (intOf iv).toNat)
  case atStart => exact ⟨0, some ⟨w4.heap.size + 1, 0, none⟩, by omega, rfl, by simp, hid (by rw [Nat.zero_mul, Nat.zero_min]; exact fun _ => rfl), HINV⟩
  case round =>
    clear HINV
    obtain ⟨i, ra, hi, rfl, rfl, HRA, HINV⟩ := hrel
    by_cases hlt : i < k
    · obtain ⟨q, hq⟩ : ∃ q, q = min (i * L) size := ⟨_, rfl⟩
      have hqn : q ≤ size := by omega
      have HQ := hid hq
      rw [← hq] at HRA ⊢
      clear hq
      have hx := HINV.out.box
      have x0 := cell_of_heap hx 0
      have x1 := cell_of_heap hx 1
      have x2 := cell_of_heap hx 2
      have x3 := cell_of_heap hx 3
      clear hx
      have hpl : Bs wr (.slice (some ⟨pb, 0, none⟩) k k) l := by
        have h5 := HINV.out.pl.bs HLT.out k
        rwa [HPL.out] at h5
      have hsl : Bs wr (.slice (some ⟨sb, 0, none⟩) k k) (scales l) := by
        have h5 := HINV.out.sc.bs (scales_lt _) k
        rwa [scales_length, HPL.out] at h5
      go_wp2_with fail
      refine (piece_any fb b o c pb 0 k sb 0 k k L i (ps.take k) l ((List.range k).map D) _ HINV.out.built HINV.out.rd (by omega) (by omega) HKP.out HPL.out.symm HINV.out.dat hpl hsl (by omega) (by omega)).mono ?_
      rintro e w5 ⟨pc, hpc, rfl, hoo, hb5⟩
      obtain ⟨P, hP⟩ : ∃ P, P = (mixL ((List.range k).map D) (wts l (scales l) i) L k).take (size - q) := ⟨_, rfl⟩
      have HP := hid hP
      have hPl : P.length = min (size - q) L := by rw [hP, List.length_take, mixL_length]
      have HPN := hid hPl
      clear hP hPl
      have hob5 : w4.heap.size + 1 < wr.heap.size := HINV.out.out.lt
      have hb5' : Below (w4.heap.size + 1) wr w5 := hb5.mono (by omega)
      have hout5 : Own w5 (w4.heap.size + 1) (upTo size (joinF ((List.range k).map D) l L k) q) := by
        rw [HQ.out]
        exact HINV.out.out.below hb5 hob5
      have HO5 := hid hout5
      have hoo' := hoo
      have HOO := hid hoo'
      have hcsl : (u8s P).length = Nat.min L (size - q) := by show _ = min L (size - q); simp [u8s, HPN.out]; omega
      have HCSL := hid hcsl
      clear hout5 hoo hoo' hcsl hpl hsl x0 x1 x2 x3
      go_wp2_with (refine wpList_copy_splice rfl (.tmp 57) (.tmp 60) 22 22 rfl 5 Tryd.underlying22 (by kernel_rfl) ra (some ⟨pc, 0, none⟩) (size - q) (size - q) L L rfl rfl (w4.heap.size + 1) q (u8s (upTo size (joinF ((List.range k).map D) l L k) q)) 5 ?hg (u8s P) HCSL.out ?hpos ?hfit (u8s_oneC P) (w4.heap.size + 1) w5 (Below.refl _ _) (Nat.le_refl _) ?_)
      case hg => exact HO5.out
      case hfit =>
        have h7 : (u8s P).length = P.length := by simp [u8s]
        have h9 : ∀ f, (u8s (upTo size f q)).length = size := fun f => by simp [u8s, upTo_length]
        rw [h7, h9]
        have := HPN.out
        omega
      case hpos =>
        intro hpos
        have h7 : (u8s P).length = P.length := by simp [u8s]
        have h8 := HPN.out
        refine ⟨HRA.out (by omega), _, rfl, fun j v hj => ?_⟩
        have hjl : j < P.length := by have := (List.getElem?_eq_some_iff.1 hj).1; omega
        have hc := HOO.out.cell j (by rw [mixL_length]; omega)
        have e : (⟨pc, 0, none⟩ : Addr).add j = ⟨pc, j, none⟩ := by unfold Addr.add; split <;> simp_all
        rw [e, hc, ← hj, HP.out]
        unfold u8s
        rw [List.getElem?_map, List.getElem?_take_of_lt (by omega), List.getElem?_eq_getElem (by rw [mixL_length]; omega), List.getD_eq_getElem?_getD, List.getElem?_eq_getElem (by rw [mixL_length]; omega)]
        rfl
      intro w6 hg6 hb6
      have h7 : (u8s P).length = P.length := by simp [u8s]
      have hqs : min ((i + 1) * L) size = q + (u8s P).length := by
        have h5 := HPN.out
        have h6 := HQ.out
        rw [h7, h5, Nat.succ_mul]
        generalize i * L = z at *
        omega
      have HQS := hid hqs
      have hout6 : Own w6 (w4.heap.size + 1) (upTo size (joinF ((List.range k).map D) l L k) (min ((i + 1) * L) size)) := by
        have h8 := hg6.out
        rw [splice_upTo size (joinF ((List.range k).map D) l L k) q P (by have := HPN.out; omega) (fun c hc => by
          have h9 := HPN.out
          have h10 := HQ.out
          have h11 : q = i * L := by
            rcases Nat.le_total (i * L) size with hh | hh
            · rw [h10, Nat.min_eq_left hh]
            · rw [Nat.min_eq_right hh] at h10; omega
          have hcL : c < L := by omega
          rw [h11, joinF_at _ _ _ _ _ _ hcL, HP.out, List.getD_eq_getElem?_getD, List.getD_eq_getElem?_getD, List.getElem?_take_of_lt (by omega)])] at h8
        rw [HQS.out, h7]
        exact h8
      have HNX := hid (HINV.out.step (hb5'.trans hb6) hout6)
      have hm1 : (u8s P).length ≤ size - q := by have := HPN.out; omega
      have HM1 := hid hm1
      clear h7 hqs hout6 hb6 hg6 hb5' hm1
      generalize hm : (u8s P).length = m at *
      have hm2 : m ≤ size - q := HM1.out
      clear hm
      go_wp2
      refine ⟨⟨i + 1, _, by omega, by go_num, by rw [HQS.out, Nat.sub_add_eq], ?_, HNX⟩, by simp [intOf]; omega⟩
      refine hid ?_
      rw [HQS.out]
      intro hpos
      have hra := HRA.out (by omega)
      have hne : ¬ (size - q = m) := by omega
      rw [if_neg hne, hra]
      simp [Addr.add]
    · obtain rfl : i = k := by omega
      have hout := HINV.out.out
      have e : min (i * L) size = size := Nat.min_eq_right HKL.out
      rw [e] at hout
      have hlow := HINV.out.ne
      have HO := hid hout
      clear hout e
      go_wp2
      go_ret2
      refine ⟨_, hlow.2.2.2.2, rfl, ?_, HINV.out.built, HINV.out.kept⟩
      have h5 := HO.out
      rw [upTo_all, ← HPLS.out] at h5
      exact h5
end Go.Proofs.YtehjikogdaclgaaDoor

namespace Go.Proofs.YtehjikogdaclgaaDoor
open Go Go.RowKit
set_option linter.unusedVariables false

theorem places_succ (ps : List (Int × Sl)) (i v : Nat) (h : pidx ps i = v) : places ps i ++ [v] = places ps (i + 1) := by
  unfold places
  rw [List.range_succ, List.map_append]
  simp [h]
theorem places_all {ps : List (Int × Sl)} {k : Nat} (h : ∀ i, i < k → 0 ≤ pidx ps i ∧ pidx ps i < 256) : ∀ i, i ≤ k → ∀ x ∈ places ps i, x < 256 := fun i hi x hx => by
  obtain ⟨j, hj, rfl⟩ := List.mem_map.1 hx
  have hj := List.mem_range.1 hj
  have := h j (by omega)
  omega

set_option maxRecDepth 100000 in
set_option maxHeartbeats 2000000 in
theorem value_any (k n b o c L x : Nat) (ps : List (Int × Sl)) (D : Nat → List Nat) (w : World) (h1 : 1 ≤ k) (h2 : k ≤ 255) (hkn : k ≤ n) (hnc : n ≤ c) (hx : x < 256) (hLb : L ≤ 1000000) (hp : Ps w (.slice (some ⟨b, o, none⟩) n c) ps)
    (hD : ∀ i, (h : i < ps.length) → Bs w (.slice ps[i].2.1 ps[i].2.2.1 ps[i].2.2.2) (D i)) (hL : ∀ i, i < k → plen' ps i = L) (hi : ∀ i, i < k → 0 ≤ pidx ps i ∧ pidx ps i < 256) (hnd : (places ps k).Nodup) :
    Calls Tryd.prog 59 #[.int .i64 k, .slice (some ⟨b, o, none⟩) n c, .int .u8 x] w fun e w' => ∃ oc, w.heap.size ≤ oc ∧ e = .returned (.slice (some ⟨oc, 0, none⟩) L L) ∧ Own w' oc (mixL ((List.range k).map D) (wts (places ps k) (scales (places ps k)) x) L k) ∧ Below w.heap.size w w' := by
  obtain ⟨i0, hi0, hz0, hz1, hz2⟩ := info_parts info5
  have hnp : n = ps.length := by obtain ⟨_, _, h, _⟩ := hp; simp at h; exact h.2.1
  have HN := hid hnp
  have HP := hid hp
  have HD := hid hD
  have HL := hid hL
  have HI := hid hi
  have HND := hid hnd
  clear hnp hp hD hL hi hnd
  have hown : (w.alloc (.cells #[] 5)).ownsRow w.heap.size 5 1 (.slice (some ⟨w.heap.size, 0, none⟩) 0 0) 0 (u8s (places ps 0)) := ⟨rfl, .inr ⟨w.heap.size, 0, #[], rfl, Nat.le_refl _, heap_new _ _, Nat.le_refl _, Nat.zero_le _, rfl, rfl⟩⟩
  have hbw : Below w.heap.size w (w.alloc (.cells #[] 5)) := (Below.refl _ _).alloc (Nat.le_refl _) _
  go_enter Tryd.func59, Tryd.ntmps59
  go_wp2
  go_loopw [7, 8] (fun v iv wr => ∃ i : Nat, i ≤ k ∧ iv = .int .i64 i ∧ wr.ownsRow w.heap.size 5 1 v i (u8s (places ps i)) ∧ Below w.heap.size w wr) (fun _ iv _ => k - (intOf iv).toNat)
  case atStart => exact ⟨0, by omega, rfl, hown, hbw⟩
  case round =>
    clear hown hbw
    obtain ⟨i, hi', rfl, hown, hbw⟩ := hrel
    by_cases hlt : i < k
    · have q0 := ((HP.out.below hbw).cells i (by rw [← HN.out]; omega)).1
      rw [pidx_at] at q0
      obtain ⟨v, hv⟩ : ∃ v : Nat, pidx ps i = v := ⟨(pidx ps i).toNat, by have := HI.out i hlt; omega⟩
      have hv2 : v < 256 := by have := HI.out i hlt; omega
      rw [hv] at q0
      have HV := hid hv
      clear hv
      have hown1 := hown.alloc (.cells #[.int .u8 (v : Int)] 5)
      have hsz := hbw.size
      go_wp2_with (refine wpList_append_own _ rfl (.tmp 15) (.tmp 22) _ rfl w.heap.size 5 i0 (.int .u8 0) 1 1 Tryd.underlying22 hi0 hz0 hz1 hz2 rfl (by decide) _ i (u8s (places ps i)) rfl hown1 ⟨wr.heap.size, 0, none⟩ 1 1 [.int .u8 (v : Int)] rfl rfl ?hnews ?hone (by unfold maxLen; omega) (by omega) (by simp; omega) ?_)
      case hnews => exact cell_of_new _ _ _
      case hone => intro u hu; simp only [List.mem_singleton] at hu; subst hu; rfl
      intro v' w2 hown2 hg2 _
      rw [u8s_snoc, places_succ ps i v HV.out] at hown2
      have hb2 : Below w.heap.size w w2 := (hbw.alloc hsz _).grown hg2 (by simp; omega) (fun g hg => (hown1.lt g hg).1)
      clear hown hown1 hbw hg2
      go_wp2
      go_roundw
      case rel => exact ⟨i + 1, by omega, by go_num, hown2, hb2⟩
      case measure => simp [intOf]; omega
    · obtain rfl : i = k := by omega
      obtain ⟨xa, xc, rfl, hm1, hm2, hbs, hm3⟩ := bs_of_owns hown (places_all HI.out i (Nat.le_refl _))
      clear hown hm1 hm2 hm3
      have q1 := ((HP.out.below hbw).cells 0 (by rw [← HN.out]; omega)).2
      rw [plen_at, HL.out 0 (by omega), Nat.zero_mul, Nat.add_zero] at q1
      have hb1 := World.block_lt_of_cell? _ _ q1
      have hic : i ≤ c := by omega
      generalize (ps[0]'_).2.1 = d0 at *
      generalize (ps[0]'_).2.2.2 = e0 at *
      have HBS := hid hbs
      have HBW := hid hbw
      have HQ1 := hid q1
      have hkp : i = (ps.take i).length := by rw [List.length_take, ← HN.out, Nat.min_eq_left hkn]
      have hmix : ∀ W ob, Below wr.heap.size wr W → Own W ob (wts (places ps i) (scales (places ps i)) x) → Calls Tryd.prog 73 #[.slice (some ⟨b, o, none⟩) i c, .slice (some ⟨ob, 0, none⟩) i i, .int .i64 L] W fun e w' => ∃ oc, W.heap.size ≤ oc ∧ e = .returned (.slice (some ⟨oc, 0, none⟩) L L) ∧ Own w' oc (mixL ((List.range i).map D) (wts (places ps i) (scales (places ps i)) x) L i) ∧ Below W.heap.size W w' := fun W ob hW how => by
        have h9 := how.bs (wts_lt _ _ _) i
        rw [wts_length, places_length] at h9
        have hW2 := hbw.trans (hW.mono hbw.size)
        refine rmix_any b o c ob 0 i i L (ps.take i) _ ((List.range i).map D) W ((HP.out.below hW2).take hkn) (by omega) hkp (fun q h => ?_) h9 hLb
        have hq : q < i := by rwa [← hkp] at h
        have hq2 : q < ps.length := by rw [← HN.out]; omega
        rw [range_map_getD _ _ _ hq]
        simp only [List.getElem_take]
        refine ⟨(HD.out q hq2).below hW2, ?_⟩
        have h5 := (HD.out q hq2).len
        rw [plen_at, HL.out q hq] at h5
        exact h5.symm
      have HMIX := hid hmix
      have hn0 : 0 < n := by omega
      clear hbs hbw hkp hmix
      go_wp2
      go_region_held3 (fun w' => w'.cell? ⟨b, o + 1, none⟩ = some (.slice d0 L e0))
        (first | with_reducible exact HQ1.out | with_reducible exact (hbC.cell (p := ⟨b, o + 1, none⟩) (Nat.lt_of_lt_of_le hb1 hbA.size)).trans ((hbA.cell (p := ⟨b, o + 1, none⟩) hb1).trans HQ1.out) | exact (hbA.cell (p := ⟨b, o + 1, none⟩) hb1).trans HQ1.out | exact HQ1.out)
        (first
          | (go_at_call 74
             refine (rweights_any xa i xc (places ps i) x hx _ (HBS.out.drewN 1) (by omega) HND.out).mono ?_
             rintro e0' wA ⟨ob, hob, rfl, how, hbA⟩
             have hbA := chainA hbA)
          | (go_at_call 73
             refine (HMIX.out _ _ hbA how).mono ?_
             rintro e0' wC ⟨oc, hoc, rfl, hoC, hbC⟩))
      all_goals
        have hbe := HBW.out.trans ((hbA.trans (hbC.mono hbA.size)).mono HBW.out.size)
        have hsz := hbA.size
        have hsz2 := HBW.out.size
        go_wp2
        go_ret
        exact ⟨oc, by omega, rfl, hoC, hbe⟩
end Go.Proofs.YtehjikogdaclgaaDoor

namespace Go.Proofs.YtehjikogdaclgaaDoor
open Go Go.RowKit
set_option linter.unusedVariables false

/-- what the outer loop keeps -/
structure RckI (t : Int) (idx ce : Nat → Int) (w wr : World) (i : Nat) : Prop where
  below : Below w.heap.size w wr
  clean : chkTo t idx ce i = 0
/-- what the inner loop keeps -/
structure RckJ (idx : Nat → Int) (w wr : World) (pb i j : Nat) (x y : Value) : Prop where
  below : Below w.heap.size w wr
  box : wr.heap[pb]? = some (.cells #[x, y] 44 (0, 0))
  ne : ∀ j', j' < j → idx j' ≠ idx i
theorem occ_no {idx : Nat → Int} {i : Nat} (h : ∀ j', j' < i → idx j' ≠ idx i) : occ idx i (idx i) ≠ true := fun e => by
  obtain ⟨j, h1, h2⟩ := (occ_iff _ _ _).1 e
  exact h j h1 h2
theorem stepE_clean {t : Int} {idx ce : Nat → Int} {i : Nat} (h1 : ¬ (idx i < 0 ∨ t ≤ idx i)) (h2 : ∀ j', j' < i → idx j' ≠ idx i) : stepE t idx ce i = ce i := by
  unfold stepE
  rw [if_neg h1, if_neg (occ_no h2)]

set_option maxRecDepth 100000 in
set_option maxHeartbeats 2000000 in
theorem refcheck_len (k t : Int) (L : Nat) (a : Option Addr) (n c : Nat) (ps : List (Int × Sl)) (w : World) (hp : Ps w (.slice a n c) ps) (hn : n ≤ 100000) :
    Calls Tryd.prog 58 #[.int .i64 k, .int .i64 t, .int .i64 L, .slice a n c] w fun e w' => e = .returned (.int .i64 (chkAll k t (pidx ps) (fun i => if ((plen' ps i : Nat) : Int) = (L : Nat) then 0 else 10) n)) ∧ Below w.heap.size w w' := by
  have hnp : n = ps.length := by obtain ⟨_, _, h, _⟩ := hp; simp at h; exact h.2.1
  have HN := hid hnp
  have HP := hid hp
  clear hnp hp
  obtain ⟨ce, hce⟩ : ∃ ce : Nat → Int, ce = fun i => if ((plen' ps i : Nat) : Int) = (L : Nat) then 0 else 10 := ⟨_, rfl⟩
  have HCE := hid hce
  rw [← hce]
  clear hce
  have HINV := hid (show RckI t (pidx ps) ce w w 0 from ⟨Below.refl _ _, rfl⟩)
  have bl1 : decide ((L : Int) < 0) = false := by simp
  have bl2 : decide ((0 : Int) ≤ (L : Int)) = true := by simp
  go_enter Tryd.func58, Tryd.ntmps58
  go_wp2
  go_loopw [9] (fun iv wr => ∃ i : Nat, i ≤ n ∧ iv = .int .i64 i ∧ Hid (RckI t (pidx ps) ce w wr i)) (fun iv _ => n - (intOf iv).toNat)
  case atStart => exact ⟨0, by omega, rfl, HINV⟩
  case round =>
    clear HINV
    obtain ⟨i, hi, rfl, HINV⟩ := hrel
    by_cases hlt : i < n
    · have HPr := HP.out.below HINV.out.below
      obtain ⟨b, o, rfl⟩ : ∃ b o, a = some ⟨b, o, none⟩ := by
        obtain ⟨a', c', h1, h3⟩ := HPr
        obtain ⟨b, o, ha, _⟩ := h3 (by intro e; rw [e] at HN; have := HN.out; simp at this; omega)
        simp at h1
        exact ⟨b, o, h1.1.trans ha⟩
      have hcs := HPr.cells i (by rw [← HN.out]; exact hlt)
      obtain ⟨q0, q1⟩ := hcs
      rw [pidx_at] at q0
      rw [plen_at] at q1
      have hbe := HINV.out.below
      clear HPr
      generalize hda : (ps[i]'_).2.1 = da at *
      generalize hdc : (ps[i]'_).2.2.2 = dc at *
      clear hda hdc
      by_cases hbad : pidx ps i < 0 ∨ t ≤ pidx ps i
      · have hst : chkAll k t (pidx ps) ce n = 2 := by
          have h2 : stepE t (pidx ps) ce i = 2 := by unfold stepE; rw [if_pos hbad]
          rw [chkAll_stop HINV.out.clean (by rw [h2]; decide) hlt, h2]
        have HST := hid hst
        clear hst
        generalize pidx ps i = v at *
        by_cases h0 : v < 0
        · clear hbad
          go_wp2
          go_ret
          exact ⟨ret_int HST.out.symm, hbe.alloc hbe.size _⟩
        · have h1 : t ≤ v := by omega
          clear hbad
          go_wp2
          go_ret
          exact ⟨ret_int HST.out.symm, hbe.alloc hbe.size _⟩
      · have g1 : ¬ pidx ps i < 0 := fun h => hbad (.inl h)
        have g2 : ¬ t ≤ pidx ps i := fun h => hbad (.inr h)
        have HBAD := hid hbad
        clear hbad
        obtain ⟨v, hv⟩ : ∃ v, v = pidx ps i := ⟨_, rfl⟩
        have HV := hid hv
        rw [← hv] at q0 g1 g2
        clear hv
        obtain ⟨wo, rfl⟩ : ∃ wo : World, wo = wr := ⟨_, rfl⟩
        have HJ := hid (show RckJ (pidx ps) w (wo.alloc (Obj.cells #[.int .i64 v, .slice da (plen' ps i) dc] 44)) wo.heap.size i 0 (.int .i64 v) (.slice da (plen' ps i) dc) from ⟨hbe.alloc hbe.size _, heap_new _ _, fun j' h => absurd h (Nat.not_lt_zero _)⟩)
        go_wp2
        go_loopw [11] (fun jv wx => ∃ j : Nat, j ≤ i ∧ jv = .int .i64 j ∧ Hid (RckJ (pidx ps) w wx wo.heap.size i j (.int .i64 v) (.slice da (plen' ps i) dc))) (fun jv _ => i - (intOf jv).toNat)
        case atStart => exact ⟨0, by omega, rfl, HJ⟩
        case round =>
          clear HJ
          obtain ⟨j, hj, rfl, HJ⟩ := hrel
          have c0 := cell_of_heap HJ.out.box 0
          have c1 := cell_of_heap HJ.out.box 1
          by_cases hlt2 : j < i
          · have p0 := ((HP.out.below HJ.out.below).cells j (by rw [← HN.out]; omega)).1
            rw [pidx_at] at p0
            by_cases he : pidx ps j = v
            · have hst : chkAll k t (pidx ps) ce n = 7 := by
                have h2 : stepE t (pidx ps) ce i = 7 := by unfold stepE; rw [if_neg HBAD.out, if_pos ((occ_iff _ _ _).2 ⟨j, hlt2, he.trans HV.out⟩)]
                rw [chkAll_stop HINV.out.clean (by rw [h2]; decide) hlt, h2]
              have HST := hid hst
              have b1 : (pidx ps j == v) = true := by simpa using he
              clear hst he
              have hbj := HJ.out.below
              go_wp2
              go_quiet (fail)
              go_wp2
              go_ret
              exact ⟨ret_int HST.out.symm, bel_drewN hbj _⟩
            · have b1 : (pidx ps j == v) = false := by simpa using he
              have HE := hid he
              clear he
              go_wp2
              go_quiet (fail)
              have HJ2 := hid (show RckJ (pidx ps) w (wr.drewN nq) wo.heap.size i (j + 1) (.int .i64 v) (.slice da (plen' ps i) dc) from ⟨bel_drewN HJ.out.below _, HJ.out.box, fun j' h => by
                by_cases e : j' = j
                · rw [e, ← HV.out]; exact HE.out
                · exact HJ.out.ne j' (by omega)⟩)
              go_wp2
              exact ⟨⟨j + 1, by omega, by go_num, HJ2⟩, by simp [intOf]; omega⟩
          · obtain rfl : j = i := by omega
            have hce := stepE_clean (ce := ce) HBAD.out HJ.out.ne
            have hbj := HJ.out.below
            by_cases hln : plen' ps j = L
            · have b1 : ((plen' ps j : Int) != (L : Int)) = false := by simp [hln]
              have NX := fun q => show RckI t (pidx ps) ce w (wr.drewN q) (j + 1) from ⟨bel_drewN hbj _, chkTo_next HINV.out.clean (by rw [hce, HCE.out]; exact if_pos (by rw [hln]))⟩
              have NXH := hid NX
              clear NX hce hln
              go_wp2
              go_quiet (fail)
              go_wp2
              exact ⟨⟨j + 1, by omega, by go_num, hid (NXH.out _)⟩, by simp [intOf]; omega⟩
            · have b1 : ((plen' ps j : Int) != (L : Int)) = true := by simp; omega
              have hst : chkAll k t (pidx ps) ce n = 10 := by
                have h2 : stepE t (pidx ps) ce j = 10 := by rw [hce, HCE.out]; exact if_neg (by omega)
                rw [chkAll_stop HINV.out.clean (by rw [h2]; decide) hlt, h2]
              have HST := hid hst
              clear hst hce hln
              go_wp2
              go_quiet (fail)
              go_wp2
              go_ret
              exact ⟨ret_int HST.out.symm, bel_drewN hbj _⟩
    · obtain rfl : i = n := by omega
      have hbe := HINV.out.below
      by_cases hk : (i : Int) < k
      · have hst : chkAll k t (pidx ps) ce i = 12 := by unfold chkAll; rw [if_pos HINV.out.clean, if_pos hk]
        have HST := hid hst
        clear hst
        go_wp2
        go_ret
        exact ⟨ret_int HST.out.symm, hbe⟩
      · have hst : chkAll k t (pidx ps) ce i = 0 := by unfold chkAll; rw [if_pos HINV.out.clean, if_neg hk]
        have HST := hid hst
        clear hst
        go_wp2
        go_ret
        exact ⟨ret_int HST.out.symm, hbe⟩
set_option maxRecDepth 100000 in
set_option maxHeartbeats 2000000 in
theorem refcheck_alike (k t : Int) (a : Option Addr) (n c : Nat) (ps : List (Int × Sl)) (w : World) (hp : Ps w (.slice a n c) ps) (hn : n ≤ 100000) :
    Calls Tryd.prog 58 #[.int .i64 k, .int .i64 t,   .int .i64 (-1), .slice a n c] w fun e w' => e = .returned (.int .i64 (chkAll k t (pidx ps) (alikeE ps) n)) ∧ Below w.heap.size w w' := by
  have hnp : n = ps.length := by obtain ⟨_, _, h, _⟩ := hp; simp at h; exact h.2.1
  have HN := hid hnp
  have HP := hid hp
  clear hnp hp
  obtain ⟨ce, hce⟩ : ∃ ce : Nat → Int, ce = alikeE ps := ⟨_, rfl⟩
  have HCE := hid hce
  rw [← hce]
  clear hce
  have HINV := hid (show RckI t (pidx ps) ce w w 0 from ⟨Below.refl _ _, rfl⟩)
  go_enter Tryd.func58, Tryd.ntmps58
  go_wp2
  go_loopw [9] (fun iv wr => ∃ i : Nat, i ≤ n ∧ iv = .int .i64 i ∧ Hid (RckI t (pidx ps) ce w wr i)) (fun iv _ => n - (intOf iv).toNat)
  case atStart => exact ⟨0, by omega, rfl, HINV⟩
  case round =>
    clear HINV
    obtain ⟨i, hi, rfl, HINV⟩ := hrel
    by_cases hlt : i < n
    · have HPr := HP.out.below HINV.out.below
      obtain ⟨b, o, rfl⟩ : ∃ b o, a = some ⟨b, o, none⟩ := by
        obtain ⟨a', c', h1, h3⟩ := HPr
        obtain ⟨b, o, ha, _⟩ := h3 (by intro e; rw [e] at HN; have := HN.out; simp at this; omega)
        simp at h1
        exact ⟨b, o, h1.1.trans ha⟩
      have hcs := HPr.cells i (by rw [← HN.out]; exact hlt)
      obtain ⟨q0, q1⟩ := hcs
      rw [pidx_at] at q0
      rw [plen_at] at q1
      have hbe := HINV.out.below
      clear HPr
      generalize hda : (ps[i]'_).2.1 = da at *
      generalize hdc : (ps[i]'_).2.2.2 = dc at *
      clear hda hdc
      by_cases hbad : pidx ps i < 0 ∨ t ≤ pidx ps i
      · have hst : chkAll k t (pidx ps) ce n = 2 := by
          have h2 : stepE t (pidx ps) ce i = 2 := by unfold stepE; rw [if_pos hbad]
          rw [chkAll_stop HINV.out.clean (by rw [h2]; decide) hlt, h2]
        have HST := hid hst
        clear hst
        generalize pidx ps i = v at *
        by_cases h0 : v < 0
        · clear hbad
          go_wp2
          go_ret
          exact ⟨ret_int HST.out.symm, hbe.alloc hbe.size _⟩
        · have h1 : t ≤ v := by omega
          clear hbad
          go_wp2
          go_ret
          exact ⟨ret_int HST.out.symm, hbe.alloc hbe.size _⟩
      · have g1 : ¬ pidx ps i < 0 := fun h => hbad (.inl h)
        have g2 : ¬ t ≤ pidx ps i := fun h => hbad (.inr h)
        have HBAD := hid hbad
        clear hbad
        obtain ⟨v, hv⟩ : ∃ v, v = pidx ps i := ⟨_, rfl⟩
        have HV := hid hv
        rw [← hv] at q0 g1 g2
        clear hv
        obtain ⟨wo, rfl⟩ : ∃ wo : World, wo = wr := ⟨_, rfl⟩
        have HJ := hid (show RckJ (pidx ps) w (wo.alloc (Obj.cells #[.int .i64 v, .slice da (plen' ps i) dc] 44)) wo.heap.size i 0 (.int .i64 v) (.slice da (plen' ps i) dc) from ⟨hbe.alloc hbe.size _, heap_new _ _, fun j' h => absurd h (Nat.not_lt_zero _)⟩)
        go_wp2
        go_loopw [11] (fun jv wx => ∃ j : Nat, j ≤ i ∧ jv = .int .i64 j ∧ Hid (RckJ (pidx ps) w wx wo.heap.size i j (.int .i64 v) (.slice da (plen' ps i) dc))) (fun jv _ => i - (intOf jv).toNat)
        case atStart => exact ⟨0, by omega, rfl, HJ⟩
        case round =>
          clear HJ
          obtain ⟨j, hj, rfl, HJ⟩ := hrel
          have c0 := cell_of_heap HJ.out.box 0
          have c1 := cell_of_heap HJ.out.box 1
          by_cases hlt2 : j < i
          · have p0 := ((HP.out.below HJ.out.below).cells j (by rw [← HN.out]; omega)).1
            rw [pidx_at] at p0
            by_cases he : pidx ps j = v
            · have hst : chkAll k t (pidx ps) ce n = 7 := by
                have h2 : stepE t (pidx ps) ce i = 7 := by unfold stepE; rw [if_neg HBAD.out, if_pos ((occ_iff _ _ _).2 ⟨j, hlt2, he.trans HV.out⟩)]
                rw [chkAll_stop HINV.out.clean (by rw [h2]; decide) hlt, h2]
              have HST := hid hst
              have b1 : (pidx ps j == v) = true := by simpa using he
              clear hst he
              have hbj := HJ.out.below
              go_wp2
              go_quiet (fail)
              go_wp2
              go_ret
              exact ⟨ret_int HST.out.symm, bel_drewN hbj _⟩
            · have b1 : (pidx ps j == v) = false := by simpa using he
              have HE := hid he
              clear he
              go_wp2
              go_quiet (fail)
              have HJ2 := hid (show RckJ (pidx ps) w (wr.drewN nq) wo.heap.size i (j + 1) (.int .i64 v) (.slice da (plen' ps i) dc) from ⟨bel_drewN HJ.out.below _, HJ.out.box, fun j' h => by
                by_cases e : j' = j
                · rw [e, ← HV.out]; exact HE.out
                · exact HJ.out.ne j' (by omega)⟩)
              go_wp2
              exact ⟨⟨j + 1, by omega, by go_num, HJ2⟩, by simp [intOf]; omega⟩
          · obtain rfl : j = i := by omega
            have hce := stepE_clean (ce := ce) HBAD.out HJ.out.ne
            have hbj := HJ.out.below
            have hz := ((HP.out.below hbj).cells 0 (by rw [← HN.out]; omega)).2
            rw [plen_at, Nat.zero_mul, Nat.add_zero] at hz
            have hce : stepE t (pidx ps) ce j = alikeL (plen' ps 0) (plen' ps j) := by rw [hce, HCE.out]; rfl
            obtain ⟨L0, hL0⟩ : ∃ L0, L0 = plen' ps 0 := ⟨_, rfl⟩
            rw [← hL0] at hz hce
            clear hL0
            generalize (ps[0]'_).2.1 = d0 at *
            generalize (ps[0]'_).2.2.2 = e0 at *
            obtain ⟨m, hm⟩ : ∃ m, m = plen' ps j := ⟨_, rfl⟩
            rw [← hm] at hce q1 c1 ⊢
            have HBX := hid HJ.out.box
            clear hm
            by_cases hbig : 8192 < m
            · have b1 : decide ((8192 : Int) < (m : Int)) = true := by simp; omega
              have hst : chkAll k t (pidx ps) ce n = 3 := by
                have h2 : stepE t (pidx ps) ce j = 3 := by rw [hce]; unfold alikeL; rw [if_pos hbig]
                rw [chkAll_stop HINV.out.clean (by rw [h2]; decide) hlt, h2]
              have HST := hid hst
              clear hst hce
              go_wp2
              go_ret
              exact ⟨ret_int HST.out.symm, hbj⟩
            · have b1 : decide ((8192 : Int) < (m : Int)) = false := by simp; omega
              by_cases hln : m = L0
              · have b2 : ((m : Int) != (L0 : Int)) = false := by simp [hln]
                have NX := fun q => show RckI t (pidx ps) ce w (wr.drewN q) (j + 1) from ⟨bel_drewN hbj _, chkTo_next HINV.out.clean (by rw [hce]; unfold alikeL; rw [if_neg hbig, if_pos hln])⟩
                have NXH := hid NX
                clear NX hce hln
                go_wp2
                go_quiet (fail)
                go_wp2
                exact ⟨⟨j + 1, by omega, by go_num, hid (NXH.out _)⟩, by simp [intOf]; omega⟩
              · have b2 : ((m : Int) != (L0 : Int)) = true := by simp; omega
                have hst : chkAll k t (pidx ps) ce n = 10 := by
                  have h2 : stepE t (pidx ps) ce j = 10 := by rw [hce]; unfold alikeL; rw [if_neg hbig, if_neg hln]
                  rw [chkAll_stop HINV.out.clean (by rw [h2]; decide) hlt, h2]
                have HST := hid hst
                clear hst hce hln
                go_wp2
                go_quiet (fail)
                go_wp2
                go_ret
                exact ⟨ret_int HST.out.symm, bel_drewN hbj _⟩
    · obtain rfl : i = n := by omega
      have hbe := HINV.out.below
      by_cases hk : (i : Int) < k
      · have hst : chkAll k t (pidx ps) ce i = 12 := by unfold chkAll; rw [if_pos HINV.out.clean, if_pos hk]
        have HST := hid hst
        clear hst
        go_wp2
        go_ret
        exact ⟨ret_int HST.out.symm, hbe⟩
      · have hst : chkAll k t (pidx ps) ce i = 0 := by unfold chkAll; rw [if_pos HINV.out.clean, if_neg hk]
        have HST := hid hst
        clear hst
        go_wp2
        go_ret
        exact ⟨ret_int HST.out.symm, hbe⟩
end Go.Proofs.YtehjikogdaclgaaDoor

namespace Go.Proofs.YtehjikogdaclgaaDoor
open Go Go.RowKit
set_option linter.unusedVariables false

theorem Join_size (k t size : Int) (a : Option Addr) (n c : Nat) (h : ¬ (1 ≤ k ∧ k ≤ t ∧ t ≤ 255 ∧ 0 ≤ size ∧ size ≤ 8192)) (w : World) :
    Calls Tryd.prog 30 #[.int .i64 k, .int .i64 t, .int .i64 size, .slice a n c] w fun e w' => e = .returned (.tuple #[.slice none 0 0, .int .i64 2]) ∧ w = w' := by
  have hnot : ∀ (x : Bool) (w : World), (Op.unary .not (.bool x)).run Tryd.prog w = .ok (.bool (!x)) w := fun _ _ => rfl
  by_cases h1 : 1 ≤ k ∧ k ≤ t ∧ t ≤ 255
  · obtain ⟨a1, a2, a3⟩ := h1
    by_cases h2 : size < 0
    · have b1 : decide (size < 0) = true := by simpa using h2
      clear h
      go_enter Tryd.func30, Tryd.ntmps30
      go_wp2_with fail
      refine (rsizes_yes k t a1 a2 a3 _).mono ?_
      rintro e w' ⟨rfl, rfl⟩
      go_wp2
      go_ret2
      exact ⟨rfl, rfl⟩
    · have b1 : decide (size < 0) = false := by simp; omega
      have b2 : decide ((8192 : Int) < size) = true := by simp; omega
      clear h
      go_enter Tryd.func30, Tryd.ntmps30
      go_wp2_with fail
      refine (rsizes_yes k t a1 a2 a3 _).mono ?_
      rintro e w' ⟨rfl, rfl⟩
      go_wp2
      go_ret2
      exact ⟨rfl, rfl⟩
  · have H := hid h1
    clear h h1
    go_enter Tryd.func30, Tryd.ntmps30
    go_wp2_with fail
    refine (rsizes_no k t H.out _).mono ?_
    rintro e w' ⟨rfl, rfl⟩
    go_wp2
    go_ret2
    exact ⟨rfl, rfl⟩

theorem Join_err (k t size : Nat) (a : Option Addr) (n c : Nat) (ps : List (Int × Sl)) (h1 : 1 ≤ k) (h2 : k ≤ t) (h3 : t ≤ 255) (h4 : size ≤ 8192) (hn : n ≤ 100000) (w : World) (hp : Ps w (.slice a n c) ps)
    (hne : chkAll k t (pidx ps) (fun i => if ((plen' ps i : Nat) : Int) = (plen k size : Nat) then 0 else 10) n ≠ 0) :
    Calls Tryd.prog 30 #[.int .i64 k, .int .i64 t, .int .i64 size, .slice a n c] w fun e w' => e = .returned (.tuple #[.slice none 0 0, .int .i64 (chkAll k t (pidx ps) (fun i => if ((plen' ps i : Nat) : Int) = (plen k size : Nat) then 0 else 10) n)]) ∧ Below w.heap.size w w' := by
  have hnot : ∀ (x : Bool) (w : World), (Op.unary .not (.bool x)).run Tryd.prog w = .ok (.bool (!x)) w := fun _ _ => rfl
  have bn : (chkAll k t (pidx ps) (fun i => if ((plen' ps i : Nat) : Int) = (plen k size : Nat) then 0 else 10) n != 0) = true := by simpa using hne
  have b1 : decide ((size : Int) < 0) = false := by simp
  have b2 : decide ((8192 : Int) < (size : Int)) = false := by simp; omega
  have HC := hid (refcheck_len (k : Int) (t : Int) (plen k size) a n c ps w hp hn)
  clear hp hne
  generalize chkAll k t (pidx ps) (fun i => if ((plen' ps i : Nat) : Int) = (plen k size : Nat) then 0 else 10) n = ee at *
  go_enter Tryd.func30, Tryd.ntmps30
  go_wp2_with fail
  refine (rsizes_yes k t (by omega) (by omega) (by omega) _).mono ?_
  rintro e w' ⟨rfl, rfl⟩
  go_wp2_with fail
  refine (length_ok k size h1 (by omega) h4 _).mono ?_
  rintro e w' ⟨rfl, rfl⟩
  go_wp2_with fail
  refine HC.out.mono ?_
  rintro e w5 ⟨rfl, hb⟩
  go_wp2
  go_ret2
  exact ⟨rfl, hb⟩

/-- the first i pieces one after another -/
def catL (D : List (List Nat)) (l : List Nat) (L k i : Nat) : List Nat := (List.range (i * L)).map (joinF D l L k)
theorem catL_succ (D : List (List Nat)) (l : List Nat) (L k i : Nat) : catL D l L k i ++ mixL D (wts l (scales l) i) L k = catL D l L k (i + 1) := by
  unfold catL
  rw [Nat.succ_mul, List.range_add, List.map_append, List.map_map]
  congr 1
  refine ext_getD (by simp [mixL_length]) fun c hc => ?_
  rw [mixL_length] at hc
  have hc2 : c < L := hc
  rw [← joinF_at D l L k i c hc2, List.getD_eq_getElem?_getD (l := List.map _ _), List.getElem?_map, List.getElem?_range hc2]
  rfl
theorem catL_length (D : List (List Nat)) (l : List Nat) (L k i : Nat) : (catL D l L k i).length = i * L := by simp [catL]
theorem joinF_lt {D : List (List Nat)} {l : List Nat} {L k p : Nat} (h : ∀ i j, (D.getD i []).getD j 0 < 256) : joinF D l L k p < 256 := getD_lt (mixL_lt D (wts l (scales l) (p / L)) L k (fun i => getD_lt (wts_lt _ _ _) i)) _
theorem catL_take (D : List (List Nat)) (l : List Nat) (L k size : Nat) (h : size ≤ k * L) : (catL D l L k k).take size = joinL D l L k size := by
  unfold catL joinL
  rw [← List.map_take, List.take_range, Nat.min_eq_left h]
theorem Bs.take {w : World} {a : Option Addr} {n c : Nat} {l : List Nat} (h : Bs w (.slice a n c) l) (m : Nat) (hm : m ≤ n) : Bs w (.slice a m c) (l.take m) := by
  have hlen := h.len
  obtain ⟨a', c', h1, h2, h3⟩ := h
  simp only [Value.slice.injEq] at h1
  obtain ⟨rfl, _, rfl⟩ := h1
  refine ⟨a, c, by rw [List.length_take, ← hlen, Nat.min_eq_left hm], fun x hx => h2 x (List.mem_of_mem_take hx), fun hne => ?_⟩
  have hm0 : m ≠ 0 := fun e => hne (by rw [e]; rfl)
  obtain ⟨b, o, ha, hc⟩ := h3 (by intro e; rw [e] at hlen; simp at hlen; omega)
  refine ⟨b, o, ha, fun i hi => ?_⟩
  rw [List.length_take] at hi
  rw [hc i (by omega), List.getD_eq_getElem?_getD, List.getD_eq_getElem?_getD, List.getElem?_take_of_lt (by omega)]

theorem nil_ownsJ {w : World} {base m n c : Nat} {a : Option Addr} {xs : List Value} (h : w.ownsRow base 5 1 (.slice a n c) m xs) : a = none → c = 0 := fun e => by
  rcases h.2 with ⟨h1, _⟩ | ⟨g, cap, cur, h1, _⟩
  · simp only [Value.slice.injEq] at h1
    exact h1.2.2
  · simp only [Value.slice.injEq] at h1
    rw [h1.1] at e
    cases e
set_option maxRecDepth 100000 in
set_option maxHeartbeats 2000000 in
theorem Join_okN (k t size : Nat) (a : Option Addr) (n c : Nat) (ps : List (Int × Sl)) (D : Nat → List Nat) (h1 : 1 ≤ k) (h2 : k ≤ t) (h3 : t ≤ 255) (h4 : size ≤ 8192) (hn : n ≤ 100000) (hnc : n ≤ c) (w : World) (hp : Ps w (.slice a n c) ps)
    (hD : ∀ i, (h : i < ps.length) → Bs w (.slice ps[i].2.1 ps[i].2.2.1 ps[i].2.2.2) (D i))
    (hz : chkAll k t (pidx ps) (fun i => if ((plen' ps i : Nat) : Int) = (plen k size : Nat) then 0 else 10) n = 0) :
    Calls Tryd.prog 30 #[.int .i64 k, .int .i64 t, .int .i64 size, .slice a n c] w fun e w' => ∃ ja jc, e = .returned (.tuple #[.slice ja size jc, .int .i64 0]) ∧ Bs w' (.slice ja size jc) (joinL ((List.range k).map D) (places ps k) (plen k size) k size) ∧ (ja = none → jc = 0) ∧ Below w.heap.size w w' := by
  have hnot : ∀ (x : Bool) (w : World), (Op.unary .not (.bool x)).run Tryd.prog w = .ok (.bool (!x)) w := fun _ _ => rfl
  have hfit := fit_of hz
  have hkn : k ≤ n := by have := hfit.few; omega
  have hnp : n = ps.length := by obtain ⟨_, _, h, _⟩ := hp; simp at h; exact h.2.1
  obtain ⟨b, o, rfl⟩ : ∃ b o, a = some ⟨b, o, none⟩ := by
    obtain ⟨a', c', e1, e3⟩ := hp
    obtain ⟨b, o, ha, _⟩ := e3 (by intro e; rw [e] at hnp; simp at hnp; omega)
    simp at e1
    exact ⟨b, o, e1.1.trans ha⟩
  obtain ⟨i0, hi0, hz0, hz1, hz2⟩ := info_parts info5
  have b1 : decide ((size : Int) < 0) = false := by simp
  have b2 : decide ((8192 : Int) < (size : Int)) = false := by simp; omega
  have hc := refcheck_len (k : Int) (t : Int) (plen k size) (some ⟨b, o, none⟩) n c ps w hp hn
  rw [hz] at hc
  have HC := hid hc
  have hlens : ∀ i, i < n → plen' ps i = plen k size := fun i hi => by
    have h5 := hfit.ok i hi
    by_cases e : ((plen' ps i : Nat) : Int) = (plen k size : Nat)
    · omega
    · rw [if_neg e] at h5; omega
  have HLENS := hid hlens
  have HFIT := hid hfit
  have HN := hid hnp
  have HP := hid hp
  have HD := hid hD
  have hLn := plen_le k size h1
  have HKL := hid (plen_ge k size h1)
  have HKB := hid (show k * plen k size ≤ 255 * 8192 from Nat.mul_le_mul (by omega) (by omega))
  have HLT := hid (places_lt (k := k) HFIT.out (by omega))
  have HND := hid (places_nodup (k := k) HFIT.out)
  have HDL := hid (show ∀ i j, (((List.range k).map D).getD i []).getD j 0 < 256 from fun i j => by
    by_cases h : i < k
    · rw [range_map_getD _ _ _ h]
      exact (HD.out i (by rw [← HN.out]; omega)).lt j
    · rw [List.getD_eq_getElem?_getD (l := List.map _ _), List.getElem?_eq_none (by simp; omega)]
      show (0 : Nat) < 256
      omega)
  clear hp hD hz hc hnp hlens hfit
  generalize hL : plen k size = L at *
  have HL := hid hL
  clear hL
  go_enter Tryd.func30, Tryd.ntmps30
  go_wp2_with fail
  refine (rsizes_yes k t (by omega) (by omega) (by omega) _).mono ?_
  rintro e w' ⟨rfl, rfl⟩
  go_wp2_with fail
  refine (length_ok k size h1 (by omega) h4 _).mono ?_
  rw [HL.out]
  rintro e w' ⟨rfl, rfl⟩
  go_wp2_with fail
  refine HC.out.mono ?_
  rintro e w5 ⟨rfl, hb⟩
  have HB := hid hb
  have hown : (w5.alloc (.cells #[] 5)).ownsRow w.heap.size 5 1 (.slice (some ⟨w5.heap.size, 0, none⟩) 0 0) 0 (u8s (catL ((List.range k).map D) (places ps k) L k 0)) := ⟨by simp [catL, u8s], .inr ⟨w5.heap.size, 0, #[], rfl, hb.size, heap_new _ _, Nat.le_refl _, Nat.zero_le _, rfl, by simp [catL, u8s]⟩⟩
  have hbw : Below w.heap.size w (w5.alloc (.cells #[] 5)) := hb.alloc hb.size _
  clear hb
  go_wp2
  go_loopw [13, 14] (fun v iv wr => ∃ i : Nat, i ≤ k ∧ iv = .int .i64 i ∧ Hid (wr.ownsRow w.heap.size 5 1 v (i * L) (u8s (catL ((List.range k).map D) (places ps k) L k i))) ∧ Below w.heap.size w wr) (fun _ iv _ => k - (intOf iv).toNat)
  case atStart => exact ⟨0, by omega, rfl, hid (by rw [Nat.zero_mul]; exact hown), hbw⟩
  case round =>
    clear hown hbw
    obtain ⟨i, hi', rfl, HOWN, hbw⟩ := hrel
    by_cases hlt : i < k
    · have hi2 : i < 256 := by omega
      go_wp2_with fail
      refine (value_any k n b o c L i ps D _ h1 (by omega) hkn hnc hi2 (by omega) (HP.out.below hbw) (fun q h => (HD.out q h).below hbw) (fun q h => HLENS.out q (by omega)) (fun q h => ⟨HFIT.out.lo q (by omega), by have := HFIT.out.hi q (by omega); omega⟩) HND.out).mono ?_
      rintro e w6 ⟨oc, hoc, rfl, ho6, hb6⟩
      have hown6 := owns_below HOWN.out hb6
      have HO6 := hid hown6
      have hwb : Below w.heap.size w w6 := hbw.trans (hb6.mono hbw.size)
      have hiL : (i + 1) * L ≤ 255 * 8192 := Nat.mul_le_mul (by omega) (by omega)
      have HIL := hid (show i * L + L ≤ 255 * 8192 by rw [← Nat.succ_mul]; exact hiL)
      have HNEWS := hid (show ∀ j u, (u8s (mixL ((List.range k).map D) (wts (places ps k) (scales (places ps k)) i) L k))[j]? = some u → w6.cell? ((⟨oc, 0, none⟩ : Addr).add j) = some u from fun j u hj => by
        rw [show (⟨oc, 0, none⟩ : Addr).add j = ⟨oc, j, none⟩ from by unfold Addr.add; split <;> simp_all, cell_of_heap ho6]
        simpa using hj)
      have HLEN := hid (show (u8s (mixL ((List.range k).map D) (wts (places ps k) (scales (places ps k)) i) L k)).length = L * 1 by simp [u8s, mixL_length])
      have HONE := hid (u8s_oneC (mixL ((List.range k).map D) (wts (places ps k) (scales (places ps k)) i) L k))
      have HM := hid (show i * L + L ≤ maxLen by have := HIL.out; unfold maxLen; omega)
      have HM2 := hid (show (i * L + L) * 1 ≤ 140737488355328 by have := HIL.out; omega)
      have hsz := hwb.size
      clear hown6 ho6 hb6 hbw HOWN hiL
      go_wp2_with (refine wpList_append_own _ rfl (.tmp 47) (.tmp 52) _ rfl w.heap.size 5 i0 (.int .u8 0) 1 1 Tryd.underlying22 hi0 hz0 hz1 hz2 rfl (by decide) _ (i * L) (u8s (catL ((List.range k).map D) (places ps k) L k i)) rfl HO6.out ⟨oc, 0, none⟩ L L (u8s (mixL ((List.range k).map D) (wts (places ps k) (scales (places ps k)) i) L k)) rfl HLEN.out HNEWS.out HONE.out HM.out HM2.out hsz ?_)
      intro v' w7 hown7 hg7 _
      have hb7 : Below w.heap.size w w7 := hwb.grown hg7 hsz (fun g hg => (HO6.out.lt g hg).1)
      have e7 : u8s (catL ((List.range k).map D) (places ps k) L k i) ++ u8s (mixL ((List.range k).map D) (wts (places ps k) (scales (places ps k)) i) L k) = u8s (catL ((List.range k).map D) (places ps k) L k (i + 1)) := by
        rw [← catL_succ]; simp [u8s]
      rw [e7, ← Nat.succ_mul] at hown7
      have H7 := hid hown7
      clear hown7 hg7 e7 hwb hsz
      go_wp2
      go_roundw
      case rel => exact ⟨i + 1, by omega, by go_num, H7, hb7⟩
      case measure => simp [intOf]; omega
    · obtain rfl : i = k := by omega
      obtain ⟨xa, xc, rfl, hm1, hm2, hbs, hm3⟩ := bs_of_owns HOWN.out (fun x hx => by
        obtain ⟨y, _, rfl⟩ := List.mem_map.1 hx
        exact joinF_lt HDL.out)
      have hkl := HKL.out
      have hsc : size ≤ xc := by omega
      have hres := hbs.take size hkl
      rw [catL_take _ _ _ _ _ hkl] at hres
      have HRES := hid hres
      clear hm1 hm2 hbs hm3 hres hkl
      have hnilJ := hid (nil_ownsJ HOWN.out)
      clear HOWN
      generalize i * L = iL at *
      go_wp2
      go_ret2
      exact ⟨xa, xc, rfl, HRES.out, hnilJ.out, hbw⟩
theorem Join_ok (k t size : Nat) (a : Option Addr) (n c : Nat) (ps : List (Int × Sl)) (D : Nat → List Nat) (h1 : 1 ≤ k) (h2 : k ≤ t) (h3 : t ≤ 255) (h4 : size ≤ 8192) (hn : n ≤ 100000) (hnc : n ≤ c) (w : World) (hp : Ps w (.slice a n c) ps)
    (hD : ∀ i, (h : i < ps.length) → Bs w (.slice ps[i].2.1 ps[i].2.2.1 ps[i].2.2.2) (D i))
    (hz : chkAll k t (pidx ps) (fun i => if ((plen' ps i : Nat) : Int) = (plen k size : Nat) then 0 else 10) n = 0) :
    Calls Tryd.prog 30 #[.int .i64 k, .int .i64 t, .int .i64 size, .slice a n c] w fun e w' => ∃ ja jc, e = .returned (.tuple #[.slice ja size jc, .int .i64 0]) ∧ Bs w' (.slice ja size jc) (joinL ((List.range k).map D) (places ps k) (plen k size) k size) ∧ Below w.heap.size w w' :=
  (Join_okN k t size a n c ps D h1 h2 h3 h4 hn hnc w hp hD hz).mono fun _ _ ⟨ja, jc, h1, h2, _, h3⟩ => ⟨ja, jc, h1, h2, h3⟩

end Go.Proofs.YtehjikogdaclgaaDoor
