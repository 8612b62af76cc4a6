/-
  Decode: the object that pieces determine; its errors.
-/
import Derived.Test.YtbajekiliplclaaDecM
import Derived.Test.YtbajekiliplclaaOnce
namespace Go.Proofs.Ytbajekiliplclaa
open Go Go.RowKit
set_option linter.unusedVariables false

/-- pieces that a call may read, whatever the field's block becomes -/
def Held (fb : Nat) (w : World) (v : Value) (ps : List (Int × Sl)) (D : Nat → List Nat) : Prop :=
  ∀ w', Kept fb w w' → Ps w' v ps ∧ ∀ i, (h : i < ps.length) → Bs w' (.slice ps[i].2.1 ps[i].2.2.1 ps[i].2.2.2) (D i)
theorem Held.step {fb : Nat} {w w' : World} {v : Value} {ps : List (Int × Sl)} {D : Nat → List Nat} (h : Held fb w v ps D) (k : Kept fb w w') : Held fb w' v ps D := fun w2 k2 => h w2 (k.trans k2)
theorem Held.now {fb : Nat} {w : World} {v : Value} {ps : List (Int × Sl)} {D : Nat → List Nat} (h : Held fb w v ps D) : Ps w v ps ∧ ∀ i, (h : i < ps.length) → Bs w (.slice ps[i].2.1 ps[i].2.2.1 ps[i].2.2.2) (D i) := h w (Kept.refl _ _)
theorem Held.len {fb : Nat} {w : World} {a : Option Addr} {n c : Nat} {ps : List (Int × Sl)} {D : Nat → List Nat} (h : Held fb w (.slice a n c) ps D) : n = ps.length := by
  obtain ⟨_, _, h1, _⟩ := h.now.1
  simp at h1
  exact h1.2.1
theorem Held.data {fb : Nat} {w : World} {v : Value} {ps : List (Int × Sl)} {D : Nat → List Nat} (h : Held fb w v ps D) (i : Nat) (hi : i < ps.length) : (D i).length = plen' ps i := by
  have h1 := (h.now.2 i hi).len
  rw [plen_at] at h1
  exact h1.symm

theorem Decode_size (fb : Nat) (k t : Int) (size : Int) (a : Option Addr) (n c : Nat) (h : ¬ (1 ≤ k ∧ k ≤ t ∧ t ≤ 255 ∧ 0 ≤ size ∧ size ≤ 8192)) (w : World) :
    Calls Try.prog 35 #[.pointer (some ⟨fb, 0, none⟩), .int .i64 k, .int .i64 t, .int .i64 size, .slice a n c] w fun e w' => e = .returned (.tuple #[.slice none 0 0, .int .i64 2]) ∧ Below w.heap.size w w' := by
  have hnot : ∀ (x : Bool) (w : World), (Op.unary .not (.bool x)).run Try.prog w = .ok (.bool (!x)) w := fun _ _ => rfl
  by_cases h1 : 1 ≤ k ∧ k ≤ t ∧ t ≤ 255
  · obtain ⟨a1, a2, a3⟩ := h1
    have H := hid (show ¬ (1 ≤ k ∧ k ≤ 255 ∧ 0 ≤ size ∧ size ≤ 8192) from fun hh => h ⟨a1, a2, a3, hh.2.2.1, hh.2.2.2⟩)
    clear h
    go_enter Try.func35, Try.ntmps35
    go_wp2_with fail
    refine (size_bad k size H.out _).mono ?_
    rintro e w' ⟨rfl, rfl⟩
    go_wp2_with fail
    refine (valid_yes k t a1 a2 a3 _).mono ?_
    rintro e w' ⟨rfl, rfl⟩
    go_wp2
    go_ret2
    exact ⟨rfl, (Below.refl _ _).alloc (Nat.le_refl _) _⟩
  · have H := hid h1
    clear h h1
    have hps : ∃ x y : Int, ∀ w : World, Calls Try.prog 26 #[.int .i64 k, .int .i64 size] w fun e w' => e = .returned (.tuple #[.int .i64 x, .int .i64 y]) ∧ w = w' := by
      by_cases h2 : 1 ≤ k ∧ k ≤ 255 ∧ 0 ≤ size ∧ size ≤ 8192
      · obtain ⟨b1, b2, b3, b4⟩ := h2
        obtain ⟨kn, rfl⟩ : ∃ m : Nat, k = m := ⟨k.toNat, by omega⟩
        obtain ⟨sn, rfl⟩ : ∃ m : Nat, size = m := ⟨size.toNat, by omega⟩
        exact ⟨_, _, fun w => size_ok kn sn (by omega) (by omega) (by omega) w⟩
      · exact ⟨_, _, fun w => size_bad k size h2 w⟩
    obtain ⟨x, y, hps⟩ := hps
    have HPS := hid hps
    clear hps
    go_enter Try.func35, Try.ntmps35
    go_wp2_with fail
    refine (HPS.out _).mono ?_
    rintro e w' ⟨rfl, rfl⟩
    go_wp2_with fail
    refine (valid_no k t H.out _).mono ?_
    rintro e w' ⟨rfl, rfl⟩
    go_wp2
    go_ret2
    exact ⟨rfl, (Below.refl _ _).alloc (Nat.le_refl _) _⟩

theorem Decode_err (fb k t size : Nat) (a : Option Addr) (n c : Nat) (ps : List (Int × Sl)) (h1 : 1 ≤ k) (h2 : k ≤ t) (h3 : t ≤ 255) (h4 : size ≤ 8192) (hn : n ≤ 100000) (w : World) (hp : Ps w (.slice a n c) ps)
    (hne : chkAll k t (pidx ps) (fun i => if ((plen' ps i : Nat) : Int) = (plen k size : Nat) then 0 else 10) n ≠ 0) :
    Calls Try.prog 35 #[.pointer (some ⟨fb, 0, none⟩), .int .i64 k, .int .i64 t, .int .i64 size, .slice a n c] w fun e w' => e = .returned (.tuple #[.slice none 0 0, .int .i64 (chkAll k t (pidx ps) (fun i => if ((plen' ps i : Nat) : Int) = (plen k size : Nat) then 0 else 10) n)]) ∧ Below w.heap.size w w' := by
  have hnot : ∀ (x : Bool) (w : World), (Op.unary .not (.bool x)).run Try.prog w = .ok (.bool (!x)) w := fun _ _ => rfl
  have hmf : ∀ (fn : Fn) (first cap : Array Value) (w : World), (Instr.makeFunc fn first cap).run Try.prog w = .ok (.func fn first cap) w := fun _ _ _ _ => rfl
  have bn : (chkAll k t (pidx ps) (fun i => if ((plen' ps i : Nat) : Int) = (plen k size : Nat) then 0 else 10) n != 0) = true := by simpa using hne
  have HP := hid hp
  have hc := fun w0 h0 hw0 => chkD_any (k : Int) (t : Int) a n c w.heap.size (plen k size : Nat) ps w0 (by omega) (HP.out.below h0) hw0
  have HC := hid hc
  clear hp hne hc
  generalize chkAll k t (pidx ps) (fun i => if ((plen' ps i : Nat) : Int) = (plen k size : Nat) then 0 else 10) n = ee at *
  go_enter Try.func35, Try.ntmps35
  go_wp2_with fail
  refine (size_ok k size h1 (by omega) h4 _).mono ?_
  rintro e w' ⟨rfl, rfl⟩
  go_wp2_with fail
  refine (valid_yes k t (by omega) (by omega) (by omega) _).mono ?_
  rintro e w' ⟨rfl, rfl⟩
  go_wp2_with fail
  refine (HC.out _ ((Below.refl _ _).alloc (Nat.le_refl _) _) (by simp [World.cell?_alloc_new]) (by simp) hn).mono ?_
  rintro e w5 ⟨rfl, hb⟩
  go_wp2
  go_ret2
  exact ⟨rfl, ((Below.refl _ _).alloc (Nat.le_refl _) _).trans (hb.mono (by simp))⟩

theorem rmap_getD (f : Nat → List Nat) (n i : Nat) (h : i < n) : ((List.range n).map f).getD i [] = f i := by
  rw [List.getD_eq_getElem?_getD, List.getElem?_map, List.getElem?_range h]; rfl
/-- what the loop of Decode keeps -/
structure DecI (fb pb sb xb ob b o k c size L : Nat) (ps : List (Int × Sl)) (l : List Nat) (D : List (List Nat)) (W w : World) (i : Nat) : Prop where
  built : Built w fb
  rd : Ps w (.slice (some ⟨b, o, none⟩) k c) ps
  dat : ∀ i, (h : i < ps.length) → Bs w (.slice ps[i].2.1 ps[i].2.2.1 ps[i].2.2.2) (D.getD i []) ∧ (D.getD i []).length = L
  pl : Own w pb l
  sc : Own w sb (scales l)
  box : w.heap[xb]? = some (Obj.cells #[Value.slice (some ⟨b, o, none⟩) k c, Value.pointer (some ⟨fb, 0, none⟩), Value.slice (some ⟨pb, 0, none⟩) k k, Value.slice (some ⟨sb, 0, none⟩) k k] 103)
  out : Own w ob (upTo size (joinF D l L k) (min (i * L) size))
  kept : Kept fb W w
  ne : fb < ob ∧ pb < ob ∧ sb < ob ∧ xb < ob ∧ W.heap.size ≤ ob
  far : ∀ w2, Below ob w w2 → Ps w2 (.slice (some ⟨b, o, none⟩) k c) ps ∧ ∀ i, (h : i < ps.length) → Bs w2 (.slice ps[i].2.1 ps[i].2.2.1 ps[i].2.2.2) (D.getD i []) ∧ (D.getD i []).length = L
theorem DecI.step {fb pb sb xb ob b o k c size L : Nat} {ps : List (Int × Sl)} {l : List Nat} {D : List (List Nat)} {W w w2 : World} {i i' : Nat} (h : DecI fb pb sb xb ob b o k c size L ps l D W w i) (kk : Below ob w w2) (ho : Own w2 ob (upTo size (joinF D l L k) (min (i' * L) size))) : DecI fb pb sb xb ob b o k c size L ps l D W w2 i' := by
  obtain ⟨n1, n2, n3, n4, n5⟩ := h.ne
  have hk : ∀ q x, w.heap[q]? = some x → q < ob → w2.heap[q]? = some x := fun q x hq hlt => (kk.block q hlt).trans hq
  obtain ⟨f1, f2⟩ := h.far w2 kk
  refine ⟨hk _ _ h.built n1, f1, f2, hk _ _ h.pl n2, hk _ _ h.sc n3, hk _ _ h.box n4, ho, ?_, h.ne, fun w3 k3 => h.far w3 (kk.trans k3)⟩
  exact ⟨kk.os.trans h.kept.os, kk.tape.trans h.kept.tape, kk.output.trans h.kept.output, Nat.le_trans h.kept.size kk.size, fun q hq hqb => (kk.block q (by omega)).trans (h.kept.block q hq hqb)⟩

set_option maxRecDepth 100000 in
set_option maxHeartbeats 4000000 in
theorem Decode_ok (fb k t size : Nat) (a : Option Addr) (n c : Nat) (ps : List (Int × Sl)) (D : Nat → List Nat) (h1 : 1 ≤ k) (h2 : k ≤ t) (h3 : t ≤ 255) (h4 : size ≤ 8192) (hn : n ≤ 100000) (hnc : n ≤ c) (w : World) (hF : Fld w fb) (hH : Held fb w (.slice a n c) ps D)
    (hz : chkAll k t (pidx ps) (fun i => if ((plen' ps i : Nat) : Int) = (plen k size : Nat) then 0 else 10) n = 0) :
    Calls Try.prog 35 #[.pointer (some ⟨fb, 0, none⟩), .int .i64 k, .int .i64 t, .int .i64 size, .slice a n c] w fun e w' => ∃ ob, w.heap.size ≤ ob ∧ e = .returned (.tuple #[.slice (some ⟨ob, 0, none⟩) size size, .int .i64 0]) ∧ Own w' ob (joinL ((List.range k).map D) (places ps k) (plen k size) k size) ∧ Built w' fb ∧ Kept fb w w' := by
  have hnot : ∀ (x : Bool) (w : World), (Op.unary .not (.bool x)).run Try.prog w = .ok (.bool (!x)) w := fun _ _ => rfl
  have hmf : ∀ (fn : Fn) (first cap : Array Value) (w : World), (Instr.makeFunc fn first cap).run Try.prog w = .ok (.func fn first cap) w := fun _ _ _ _ => rfl
  have hfit := fit_of hz
  have hkn : k ≤ n := by have := hfit.few; omega
  have hnp := hH.len
  obtain ⟨b, o, rfl⟩ : ∃ b o, a = some ⟨b, o, none⟩ := by
    obtain ⟨a', c', e1, e3⟩ := hH.now.1
    obtain ⟨b, o, ha, _⟩ := e3 (by intro e; rw [e] at hnp; simp at hnp; omega)
    simp at e1
    exact ⟨b, o, e1.1.trans ha⟩
  have hc := chkD_any (k : Int) (t : Int) (some ⟨b, o, none⟩) n c w.heap.size (plen k size : Nat) ps
  rw [hz] at hc
  have HC := hid hc
  have hlens : ∀ i, i < n → plen' ps i = plen k size := fun i hi => by
    have h5 := hfit.ok i hi
    by_cases e : ((plen' ps i : Nat) : Int) = (plen k size : Nat)
    · omega
    · rw [if_neg e] at h5; omega
  have HLENS := hid hlens
  have HFIT := hid hfit
  have HN := hid hnp
  have HF := hid hF
  have HH := hid hH
  have hfb0 := hF.lt
  have hLn := plen_le k size h1
  have HKL := hid (plen_ge k size h1)
  clear hF hH hz hc hnp hlens hfit
  generalize hL : plen k size = L at *
  have HL := hid hL
  clear hL
  go_enter Try.func35, Try.ntmps35
  go_wp2_with fail
  refine (size_ok k size h1 (by omega) h4 _).mono ?_
  rw [HL.out]
  rintro e w' ⟨rfl, rfl⟩
  go_wp2_with fail
  refine (valid_yes k t (by omega) (by omega) (by omega) _).mono ?_
  rintro e w' ⟨rfl, rfl⟩
  have hb1 : Below w.heap.size w (w.alloc (Obj.cells #[.int .i64 L] 3)) := (Below.refl _ _).alloc (Nat.le_refl _) _
  go_wp2_with fail
  refine (HC.out _ (by omega) (HH.out.now.1.below hb1) (by simp [World.cell?_alloc_new]) (by simp) hn).mono ?_
  rintro e w2 ⟨rfl, hb2⟩
  have hb12 : Below w.heap.size w w2 := hb1.trans (hb2.mono (by simp))
  have HB12 := hid hb12
  have hF2 : Fld w2 fb := HF.out.elim (fun h => .inl ((hb12.block _ hfb0).trans h)) (fun h => .inr ((hb12.block _ hfb0).trans h))
  clear hb1 hb2 hb12
  go_wp2_with fail
  refine (build_any fb _ hF2).mono ?_
  rintro e w3 ⟨rfl, hB3, hk3⟩
  have hK3 : Kept fb w w3 := (Kept.of_below HB12.out).trans hk3
  have HK3 := hid hK3
  have HH3 := hid (HH.out.step hK3)
  have HB3 := hid hB3
  clear hK3 hk3 hF2 hB3
  have hps3 := HH3.out.now.1.take hkn
  have HPS3 := hid hps3
  have hkp : k = (ps.take k).length := by rw [List.length_take, ← HN.out, Nat.min_eq_left hkn]
  have HKP := hid hkp
  have hcc : k ≤ c := by omega
  clear hps3 hkp
  have hpl := places_length ps k
  have HPL := hid hpl
  have hnum : ∀ i, (h : i < (ps.take k).length) → (ps.take k)[i].1 = (((places ps k).getD i 0 : Nat) : Int) := fun i h => by
    rw [← HKP.out] at h
    have h5 := HFIT.out.lo i (by omega)
    rw [List.getElem_take, pidx_at, places_getD ps k i h]
    omega
  have HNUM := hid hnum
  have HLT := hid (places_lt (k := k) HFIT.out (by omega))
  have HND := hid (places_nodup (k := k) HFIT.out)
  clear hnum hpl
  go_wp2_with fail
  refine (newSource_n fb b o c k (ps.take k) (places ps k) HKP.out _ HB3.out HPS3.out (by omega) (by omega) (by rw [HPL.out, ← HKP.out]) HNUM.out HLT.out HND.out).mono ?_
  rintro e w4 ⟨pb, sb, hpb, hsb, rfl, hopb, hosb, hb4⟩
  generalize hpls : places ps k = l at *
  have HPLS := hid hpls
  clear hpls
  have hdat : ∀ w', Kept fb w w' → ∀ i, (h : i < (ps.take k).length) → Bs w' (.slice (ps.take k)[i].2.1 (ps.take k)[i].2.2.1 (ps.take k)[i].2.2.2) (((List.range k).map D).getD i []) ∧ (((List.range k).map D).getD i []).length = L := fun w' hkk i h => by
    have h' := h
    rw [← HKP.out] at h'
    have hi2 : i < ps.length := by rw [← HN.out]; omega
    rw [rmap_getD _ _ _ h']
    simp only [List.getElem_take]
    exact ⟨(HH.out w' hkk).2 i hi2, by rw [HH.out.data i hi2]; exact HLENS.out i (by omega)⟩
  have HDAT := hid hdat
  have hsz := HB3.out.lt
  have hs4 := hb4.size
  have hs3 := HK3.out.size
  have hinv : DecI fb pb sb w4.heap.size (w4.heap.size + 1) b o k c size L (ps.take k) l ((List.range k).map D) w ((w4.alloc (Obj.cells #[Value.slice (some ⟨b, o, none⟩) k c, Value.pointer (some ⟨fb, 0, none⟩), Value.slice (some ⟨pb, 0, none⟩) k k, Value.slice (some ⟨sb, 0, none⟩) k k] 103)).alloc (zrow size)) 0 := by
    have hbb : Below w3.heap.size w3 ((w4.alloc (Obj.cells #[Value.slice (some ⟨b, o, none⟩) k c, Value.pointer (some ⟨fb, 0, none⟩), Value.slice (some ⟨pb, 0, none⟩) k k, Value.slice (some ⟨sb, 0, none⟩) k k] 103)).alloc (zrow size)) := (hb4.alloc (by omega) _).alloc (by simp; omega) _
    have hkk : Kept fb w ((w4.alloc (Obj.cells #[Value.slice (some ⟨b, o, none⟩) k c, Value.pointer (some ⟨fb, 0, none⟩), Value.slice (some ⟨pb, 0, none⟩) k k, Value.slice (some ⟨sb, 0, none⟩) k k] 103)).alloc (zrow size)) := HK3.out.trans (Kept.of_below hbb)
    have ho := own_zrow (w4.alloc (Obj.cells #[Value.slice (some ⟨b, o, none⟩) k c, Value.pointer (some ⟨fb, 0, none⟩), Value.slice (some ⟨pb, 0, none⟩) k k, Value.slice (some ⟨sb, 0, none⟩) k k] 103)) size
    rw [World.size_alloc, ← upTo_zero size (joinF ((List.range k).map D) l L k)] at ho
    have e0 : min (0 * L) size = 0 := by omega
    have hpl := hopb.lt
    have hsl := hosb.lt
    refine ⟨HB3.out.below hbb HB3.out.lt, HPS3.out.below hbb, HDAT.out _ hkk, (hopb.alloc _).alloc _, (hosb.alloc _).alloc _, heap_alloc (heap_new _ _) _, by rw [e0]; exact ho, hkk, by omega, fun w2 k2 => ?_⟩
    have k3 : Kept fb w w2 := ⟨k2.os.trans hkk.os, k2.tape.trans hkk.tape, k2.output.trans hkk.output, Nat.le_trans hkk.size k2.size, fun q hq hqb => (k2.block q (by omega)).trans (hkk.block q hq hqb)⟩
    exact ⟨(HH.out w2 k3).1.take hkn, HDAT.out w2 k3⟩
  have HINV := hid hinv
  have hmk := mk_u8 size (by omega)
  clear hinv hopb hosb hdat hb4
  go_wp2
  clear hmk
  go_loopw [16, 17, 53] (fun rv _ iv wr => ∃ (i : Nat) (ra : Option Addr), i ≤ k ∧ iv = .int .i64 i ∧ rv = .slice ra (size - min (i * L) size) (size - min (i * L) size) ∧ Hid (0 < size - min (i * L) size → ra = some ⟨w4.heap.size + 1, min (i * L) size, none⟩) ∧ Hid (DecI fb pb sb w4.heap.size (w4.heap.size + 1) b o k c size L (ps.take k) l ((List.range k).map D) w wr i)) (fun _ _ iv _ => k - (intOf iv).toNat)
  case atStart => exact ⟨0, some ⟨w4.heap.size + 1, 0, none⟩, by omega, rfl, by simp, hid (by rw [Nat.zero_mul, Nat.zero_min]; exact fun _ => rfl), HINV⟩
  case round =>
    clear HINV
    obtain ⟨i, ra, hi, rfl, rfl, HRA, HINV⟩ := hrel
    by_cases hlt : i < k
    · obtain ⟨q, hq⟩ : ∃ q, q = min (i * L) size := ⟨_, rfl⟩
      have hqn : q ≤ size := by omega
      have HQ := hid hq
      rw [← hq] at HRA ⊢
      clear hq
      have hx := HINV.out.box
      have x0 := cell_of_heap hx 0
      have x1 := cell_of_heap hx 1
      have x2 := cell_of_heap hx 2
      have x3 := cell_of_heap hx 3
      clear hx
      have hpl : Bs wr (.slice (some ⟨pb, 0, none⟩) k k) l := by
        have h5 := HINV.out.pl.bs HLT.out k
        rwa [HPL.out] at h5
      have hsl : Bs wr (.slice (some ⟨sb, 0, none⟩) k k) (scales l) := by
        have h5 := HINV.out.sc.bs (scales_lt _) k
        rwa [scales_length, HPL.out] at h5
      go_wp2_with fail
      refine (piece_any fb b o c pb 0 k sb 0 k k L i (ps.take k) l ((List.range k).map D) _ HINV.out.built HINV.out.rd (by omega) (by omega) HKP.out HPL.out.symm HINV.out.dat hpl hsl (by omega) (by omega)).mono ?_
      rintro e w5 ⟨pc, hpc, rfl, hoo, hb5⟩
      obtain ⟨P, hP⟩ : ∃ P, P = (mixL ((List.range k).map D) (wts l (scales l) i) L k).take (size - q) := ⟨_, rfl⟩
      have HP := hid hP
      have hPl : P.length = min (size - q) L := by rw [hP, List.length_take, mixL_length]
      have HPN := hid hPl
      clear hP hPl
      have hob5 : w4.heap.size + 1 < wr.heap.size := HINV.out.out.lt
      have hb5' : Below (w4.heap.size + 1) wr w5 := hb5.mono (by omega)
      have hout5 : Own w5 (w4.heap.size + 1) (upTo size (joinF ((List.range k).map D) l L k) q) := by
        rw [HQ.out]
        exact HINV.out.out.below hb5 hob5
      have HO5 := hid hout5
      have hoo' := hoo
      have HOO := hid hoo'
      have hcsl : (u8s P).length = Nat.min L (size - q) := by show _ = min L (size - q); simp [u8s, HPN.out]; omega
      have HCSL := hid hcsl
      clear hout5 hoo hoo' hcsl hpl hsl x0 x1 x2 x3
      go_wp2_with (refine wpList_copy_splice rfl (.tmp 57) (.tmp 60) 27 27 rfl 5 Try.underlying27 (by kernel_rfl) ra (some ⟨pc, 0, none⟩) (size - q) (size - q) L L rfl rfl (w4.heap.size + 1) q (u8s (upTo size (joinF ((List.range k).map D) l L k) q)) 5 ?hg (u8s P) HCSL.out ?hpos ?hfit (u8s_oneC P) (w4.heap.size + 1) w5 (Below.refl _ _) (Nat.le_refl _) ?_)
      case hg => exact HO5.out
      case hfit =>
        have h7 : (u8s P).length = P.length := by simp [u8s]
        have h9 : ∀ f, (u8s (upTo size f q)).length = size := fun f => by simp [u8s, upTo_length]
        rw [h7, h9]
        have := HPN.out
        omega
      case hpos =>
        intro hpos
        have h7 : (u8s P).length = P.length := by simp [u8s]
        have h8 := HPN.out
        refine ⟨HRA.out (by omega), _, rfl, fun j v hj => ?_⟩
        have hjl : j < P.length := by have := (List.getElem?_eq_some_iff.1 hj).1; omega
        have hc := HOO.out.cell j (by rw [mixL_length]; omega)
        have e : (⟨pc, 0, none⟩ : Addr).add j = ⟨pc, j, none⟩ := by unfold Addr.add; split <;> simp_all
        rw [e, hc, ← hj, HP.out]
        unfold u8s
        rw [List.getElem?_map, List.getElem?_take_of_lt (by omega), List.getElem?_eq_getElem (by rw [mixL_length]; omega), List.getD_eq_getElem?_getD, List.getElem?_eq_getElem (by rw [mixL_length]; omega)]
        rfl
      intro w6 hg6 hb6
      have h7 : (u8s P).length = P.length := by simp [u8s]
      have hqs : min ((i + 1) * L) size = q + (u8s P).length := by
        have h5 := HPN.out
        have h6 := HQ.out
        rw [h7, h5, Nat.succ_mul]
        generalize i * L = z at *
        omega
      have HQS := hid hqs
      have hout6 : Own w6 (w4.heap.size + 1) (upTo size (joinF ((List.range k).map D) l L k) (min ((i + 1) * L) size)) := by
        have h8 := hg6.out
        rw [splice_upTo size (joinF ((List.range k).map D) l L k) q P (by have := HPN.out; omega) (fun c hc => by
          have h9 := HPN.out
          have h10 := HQ.out
          have h11 : q = i * L := by
            rcases Nat.le_total (i * L) size with hh | hh
            · rw [h10, Nat.min_eq_left hh]
            · rw [Nat.min_eq_right hh] at h10; omega
          have hcL : c < L := by omega
          rw [h11, joinF_at _ _ _ _ _ _ hcL, HP.out, List.getD_eq_getElem?_getD, List.getD_eq_getElem?_getD, List.getElem?_take_of_lt (by omega)])] at h8
        rw [HQS.out, h7]
        exact h8
      have HNX := hid (HINV.out.step (hb5'.trans hb6) hout6)
      have hm1 : (u8s P).length ≤ size - q := by have := HPN.out; omega
      have HM1 := hid hm1
      clear h7 hqs hout6 hb6 hg6 hb5' hm1
      generalize hm : (u8s P).length = m at *
      have hm2 : m ≤ size - q := HM1.out
      clear hm
      go_wp2
      refine ⟨⟨i + 1, _, by omega, by go_num, by rw [HQS.out, Nat.sub_add_eq], ?_, HNX⟩, by simp [intOf]; omega⟩
      refine hid ?_
      rw [HQS.out]
      intro hpos
      have hra := HRA.out (by omega)
      have hne : ¬ (size - q = m) := by omega
      rw [if_neg hne, hra]
      simp [Addr.add]
    · obtain rfl : i = k := by omega
      have hout := HINV.out.out
      have e : min (i * L) size = size := Nat.min_eq_right HKL.out
      rw [e] at hout
      have hlow := HINV.out.ne
      have HO := hid hout
      clear hout e
      go_wp2
      go_ret2
      refine ⟨_, hlow.2.2.2.2, rfl, ?_, HINV.out.built, HINV.out.kept⟩
      have h5 := HO.out
      rw [upTo_all, ← HPLS.out] at h5
      exact h5
end Go.Proofs.Ytbajekiliplclaa
