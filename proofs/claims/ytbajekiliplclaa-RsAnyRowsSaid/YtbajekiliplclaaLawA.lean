/-
  Chosen rows of a Vandermonde matrix, and of a generator matrix, have full rank; the walk of the law about any rows.
-/
import Derived.Test.YtbajekiliplclaaKer
import Derived.Test.YtbajekiliplclaaGen
import Derived.Test.YtbajekiliplclaaCh
import Derived.Test.YtbajekiliplclaaSel2
namespace Go.Proofs.Ytbajekiliplclaa
open Go Go.RowKit
set_option linter.unusedVariables false

theorem Gf.P.le {n m : Nat} (hnm : n ≤ m) {f : Nat → Nat} (h : Gf.P n f) : Gf.P m f := by
  induction m with
  | zero => obtain rfl : n = 0 := by omega
            exact h
  | succ m ih =>
    by_cases e : n = m + 1
    · exact e ▸ h
    · exact (ih (by omega)).up
theorem pw_poly (s : Nat) (hs : s < 256) : ∀ j, Gf.P (j + 1) fun z => Gf.tm (Gf.pw z j) s
  | 0 => ⟨s, fun _ => 0, hs, Gf.P.zero 0, fun z hz => by
      show Gf.tm 1 s = s ^^^ Gf.tm z 0
      rw [Gf.tm_one _ hs, Gf.tm_zero_right, Nat.xor_zero]⟩
  | j + 1 => ⟨0, _, by omega, pw_poly s hs j, fun z hz => by
      show Gf.tm (Gf.tm (Gf.pw z j) z) s = 0 ^^^ Gf.tm z (Gf.tm (Gf.pw z j) s)
      rw [Nat.zero_xor, Gf.tm_comm (Gf.pw z j) z (Gf.pw_lt z hz j) hz, Gf.tm_assoc z _ s hz (Gf.pw_lt z hz j) hs]⟩
/-- the value at z of the polynomial with the coefficients x -/
def ev (x : Nat → Nat) (k z : Nat) : Nat := sx (fun j => Gf.tm (Gf.pw z j) (x j)) k
theorem ev_poly (x : Nat → Nat) (hx : ∀ j, x j < 256) (k : Nat) : Gf.P k (ev x k) := sx_poly (fun j z => Gf.tm (Gf.pw z j) (x j)) k fun j hj => (pw_poly (x j) (hx j) j).le (by omega)
theorem sx_shiftA (f : Nat → Nat) : ∀ k, sx f (k + 1) = f 0 ^^^ sx (fun j => f (j + 1)) k
  | 0 => by show 0 ^^^ f 0 = f 0 ^^^ 0; rw [Nat.zero_xor, Nat.xor_zero]
  | k + 1 => by
    show sx f (k + 1) ^^^ f (k + 1) = f 0 ^^^ (sx (fun j => f (j + 1)) k ^^^ f (k + 1))
    rw [sx_shiftA f k, Nat.xor_assoc]
theorem ev_shift (x : Nat → Nat) (hx : ∀ j, x j < 256) (k z : Nat) (hz : z < 256) : ev x (k + 1) z = x 0 ^^^ Gf.tm z (ev (fun j => x (j + 1)) k z) := by
  unfold ev
  rw [sx_shiftA]
  congr 1
  · exact Gf.tm_one _ (hx 0)
  · rw [Gf.tm_comm z _ hz (sx_lt _ (fun j => Gf.tm_lt _ _ (Gf.pw_lt z hz j)) k), sx_tm _ (fun j => Gf.tm_lt _ _ (Gf.pw_lt z hz j)) z k]
    refine sx_congr _ fun j hj => ?_
    show Gf.tm (Gf.tm (Gf.pw z j) z) (x (j + 1)) = Gf.tm (Gf.tm (Gf.pw z j) (x (j + 1))) z
    rw [Gf.tm_assoc _ _ _ (Gf.pw_lt z hz j) hz (hx _), Gf.tm_comm z _ hz (hx _), ← Gf.tm_assoc _ _ _ (Gf.pw_lt z hz j) (hx _) hz]
/-- a polynomial of at most 256 coefficients that is 0 everywhere has no coefficient but 0 -/
theorem ev_zero : ∀ (k : Nat) (x : Nat → Nat), k ≤ 256 → (∀ j, x j < 256) → (∀ z, z < 256 → ev x k z = 0) → ∀ j, j < k → x j = 0
  | 0, _, _, _, _, j, hj => absurd hj (Nat.not_lt_zero j)
  | k + 1, x, hk, hx, h, j, hj => by
    have h0 : x 0 = 0 := by
      have h1 := h 0 (by omega)
      rwa [ev_shift x hx k 0 (by omega), Gf.tm_zero_left, Nat.xor_zero] at h1
    have hg : ∀ z, z < 256 → z ≠ 0 → ev (fun j => x (j + 1)) k z = 0 := fun z hz hz0 => by
      have h1 := h z hz
      rw [ev_shift x hx k z hz, h0, Nat.zero_xor] at h1
      exact Gf.tm_eq_zero hz (sx_lt _ (fun j => Gf.tm_lt _ _ (Gf.pw_lt z hz j)) k) h1 hz0
    have hall : ∀ z, z < 256 → ev (fun j => x (j + 1)) k z = 0 := (ev_poly _ (fun j => hx (j + 1)) k).roots ((List.range k).map (· + 1)) (by simp) (by
      rw [List.nodup_iff_pairwise_ne, List.pairwise_map]
      exact List.nodup_range.imp fun h e => h (by simpa using e)) (fun r hr => by
      obtain ⟨a, ha, rfl⟩ := List.mem_map.1 hr
      have ha := List.mem_range.1 ha
      exact ⟨by omega, hg _ (by omega) (by omega)⟩)
    cases j with
    | zero => exact h0
    | succ j => exact ev_zero k (fun j => x (j + 1)) (by omega) (fun j => hx (j + 1)) hall j (by omega)

theorem full_rank {M : Nat → Nat → Nat} (hM : ∀ i j, M i j < 256) (R : Nat) (h : ∀ x : Nat → Nat, (∀ j, x j < 256) → (∀ i, i < R → sx (fun j => Gf.tm (M i j) (x j)) R = 0) → ∀ d, d < R → x d = 0) : (gj R M R).2 = R := by
  have h1 := (gj_le R M R).1
  by_cases e : (gj R M R).2 < R
  · obtain ⟨x, hx, ⟨d, hd, h2⟩, hk⟩ := kernel hM R e
    have := h x hx hk d hd
    omega
  · omega
/-- the chosen rows, as numbers -/
def asInts (s : List Nat) : List Int := s.map fun (n : Nat) => (n : Int)
theorem asInts_getD (s : List Nat) (i : Nat) : ((asInts s).getD i 0).toNat = s.getD i 0 := by
  unfold asInts
  rw [List.getD_eq_getElem?_getD, List.getElem?_map, List.getD_eq_getElem?_getD]
  cases s[i]? <;> rfl
theorem sel_ints (M : Nat → Nat → Nat) (s : List Nat) (i j : Nat) : selM M (asInts s) i j = M (s.getD i 0) j := by
  unfold selM
  rw [asInts_getD]
theorem roots_of {s : List Nat} {k total : Nat} (hs : s.length = k) (hd : s.Nodup) (hlt : ∀ n ∈ s, n < total) (ht : total ≤ 256) {f : Nat → Nat} (hf : Gf.P k f) (h : ∀ i, i < k → f (s.getD i 0) = 0) : ∀ z, z < 256 → f z = 0 :=
  hf.roots s hs hd fun r hr => by
    refine ⟨Nat.lt_of_lt_of_le (hlt r hr) ht, ?_⟩
    obtain ⟨h1, h2⟩ := idx_of_getD s r hr
    have := h _ (hs ▸ h1)
    rwa [h2] at this
theorem full_vd (s : List Nat) (k total : Nat) (hk : k ≤ 256) (hs : s.length = k) (hd : s.Nodup) (hlt : ∀ n ∈ s, n < total) (ht : total ≤ 256) :
    (gj k (selM (fun r c => if r < total then vdM r c else 0) (asInts s)) k).2 = k := by
  have hm : ∀ i, i < k → s.getD i 0 < total := fun i hi => by
    rw [List.getD_eq_getElem?_getD, List.getElem?_eq_getElem (by omega)]
    exact hlt _ (List.getElem_mem _)
  refine full_rank (fun i j => ?_) k fun x hx hz => ?_
  · show (if _ then Gf.pw _ _ else 0) < 256
    split
    · exact Gf.pw_lt _ (by omega) _
    · omega
  · refine ev_zero k x hk hx (roots_of hs hd hlt ht (ev_poly x hx k) fun i hi => ?_)
    refine Eq.trans ?_ (hz i hi)
    refine sx_congr _ fun j hj => ?_
    show Gf.tm (Gf.pw (s.getD i 0) j) (x j) = Gf.tm (selM (fun r c => if r < total then vdM r c else 0) (asInts s) i j) (x j)
    rw [sel_ints]
    show _ = Gf.tm (if s.getD i 0 < total then Gf.pw (s.getD i 0) j else 0) (x j)
    rw [if_pos (hm i hi)]
theorem full_gen (s : List Nat) (k total : Nat) (hk : k ≤ 256) (hs : s.length = k) (hd : s.Nodup) (hlt : ∀ n ∈ s, n < total) (ht : total ≤ 256) :
    (gj k (selM (genM k) (asInts s)) k).2 = k := by
  have hr : ∀ i, (List.range k).getD i 0 < 256 := fun i => by
    rw [List.getD_eq_getElem?_getD]
    by_cases h : i < k
    · rw [List.getElem?_range h]
      show i < 256
      omega
    · rw [List.getElem?_eq_none (by simp; omega)]
      show 0 < 256
      omega
  refine full_rank (fun i j => genM_lt k _ j) k fun x hx hz d hd2 => ?_
  have hp := through_poly (List.range k) hr List.nodup_range x hx
  rw [List.length_range] at hp
  have h0 : ∀ z, z < 256 → through (List.range k) x z = 0 := roots_of hs hd hlt ht hp fun i hi => by
    refine Eq.trans ?_ (hz i hi)
    unfold through
    rw [List.length_range]
    refine sx_congr _ fun j hj => ?_
    show _ = Gf.tm (selM (genM k) (asInts s) i j) (x j)
    rw [sel_ints]
    rfl
  have h1 := through_at (List.range k) List.nodup_range x hx d (by simpa using hd2)
  rw [h0 _ (hr d)] at h1
  exact h1.symm

theorem Fld.sameA {w w' : World} {b : Nat} (h : Fld w b) (e : w'.heap[b]? = w.heap[b]?) : Fld w' b := h.elim (fun h => .inl (e.trans h)) (fun h => .inr (e.trans h))
theorem Kept.hp {fb q : Nat} {w w' : World} {o : Obj} (k : Kept fb w w') (h : w.heap[q]? = some o) (hne : q ≠ fb) : w'.heap[q]? = some o := (k.block q (lt_of_heap h) hne).trans h
theorem Is.kept {w w' : World} {v : Value} {l : List Int} {fb : Nat} (h : Is w v l) (k : Kept fb w w') (ho : Off fb v) : Is w' v l := by
  obtain ⟨a, c, h1, h2, h3⟩ := h
  refine ⟨a, c, h1, h2, fun hl => ?_⟩
  obtain ⟨b, o, ha, hc⟩ := h3 hl
  refine ⟨b, o, ha, fun i hi => ?_⟩
  have := hc i hi
  subst h1; subst ha
  have hb : b ≠ fb := ho
  rw [World.cell?_of_block (w := w) (k.block b (World.block_lt_of_cell? _ _ this) hb)]; exact this
theorem asInts_len (s : List Nat) : (asInts s).length = s.length := by simp [asInts]
theorem asInts_get (s : List Nat) (i : Nat) : (asInts s).getD i 0 = (s.getD i 0 : Nat) := by
  unfold asInts
  rw [List.getD_eq_getElem?_getD, List.getElem?_map, List.getD_eq_getElem?_getD]
  cases s[i]? <;> rfl
theorem Chosen.stops {k total : Nat} {s : List Nat} (h : Chosen k total s) : Stops total (asInts s) k :=
  ⟨by rw [asInts_len, h.len]; exact Nat.le_refl _, fun i hi => by
    rw [asInts_get]
    have h1 := h.lt (s.getD i 0) (by
      rw [List.getD_eq_getElem?_getD, List.getElem?_eq_getElem (by rw [h.len]; exact hi)]
      exact List.getElem_mem _)
    omega, fun hlt => by rw [asInts_len, h.len] at hlt; omega⟩
theorem Chosen.is {k total B : Nat} {s : List Nat} {w : World} {v : Value} (h : Chosen k total s) (ht : total ≤ 1000) (ho : w.ownsRow B 3 1 v k (nis s)) :
    ∃ a c, v = .slice a k c ∧ k ≤ c ∧ Is w (.slice a k c) (asInts s) ∧ ∀ ad, a = some ad → B ≤ ad.block ∧ ad.block < w.heap.size := by
  rw [nis_ints] at ho
  obtain ⟨a, c, rfl, h1, h2, h3, h4⟩ := is_of_owns ho (fun n hn => by
    obtain ⟨x, hx, rfl⟩ := List.mem_map.1 hn
    have := h.lt x hx
    exact WalkArith.wf_i64 (by omega))
  exact ⟨a, c, rfl, h2, h3, h4⟩
/-- what Select leaves where every row may be chosen -/
theorem SelPost.got {B n C : Nat} {L : List Nat} {e : Ending} {w' : World} (h : SelPost B n C n L e w') (hc : n = n → CapOk e) :
    ∃ a m cap, e = .returned (.tuple #[.agg #[.int .i64 n, .int .i64 C, .slice a m cap], .int .i64 0]) ∧ Bs w' (.slice a m cap) L ∧ m ≤ cap ∧ ∀ ad, a = some ad → B ≤ ad.block := by
  obtain ⟨a, m, cap, rfl, h2, h3⟩ := h.1 rfl
  obtain ⟨_, _, _, _, _, _, h4, h5⟩ := hc rfl
  simp at h4
  obtain ⟨⟨rfl, rfl, rfl, rfl, rfl⟩, rfl⟩ := h4
  exact ⟨_, _, _, rfl, h2, h5, h3⟩

set_option maxRecDepth 100000 in
set_option maxHeartbeats 4000000 in
theorem anyrows_in (W : World) (k t : Nat) (h1 : 1 ≤ k) (h2 : k ≤ t) (h3 : t ≤ 40) (la : Option Addr) (m lc : Nat) (l : List Int) (hl : Is W (.slice la m lc) l) (hm : m ≤ 40) :
    Calls Try.prog 25 #[.int .i64 k, .int .i64 t, .slice la m lc] W fun e w' => e = .returned (.bool true) ∧ Below W.heap.size W w' := by
  have b1 : decide ((k : Int) < 1) = false := by simp; omega
  have b2 : decide (t < k) = false := by simp; omega
  have b3 : decide ((40 : Int) < (t : Int)) = false := by simp; omega
  have b4 : decide ((40 : Int) < (m : Int)) = false := by simp; omega
  have hkt : t * k ≤ 1600 := Nat.mul_le_mul h3 (by omega : k ≤ 40)
  have HL := hid hl
  clear hl
  go_enter Try.func25, Try.ntmps25
  go_wp2_with fail
  refine (newField_ex _).mono ?_
  rintro e w1 ⟨fb, hfb, rfl, hfr, hb1⟩
  have HF1 := hid (show Fld w1 fb from .inl hfr)
  have HB1 := hid hb1
  clear hfr hb1
  go_wp2_with fail
  refine (choose_any k t h1 h2 (by omega) la m lc l _ (HL.out.below HB1.out)).mono ?_
  rintro e w2 ⟨vo, s, rfl, hvo, hch, hb2⟩
  obtain ⟨ra, rc, rfl, hkc, hrs, hra⟩ := hch.is (by omega) hvo
  have HCH := hid hch
  have HF2 := hid (HF1.out.sameA (hb2.block _ HF1.out.lt))
  have HB2 := hid (known_end HB1.out hb2)
  have HR2 := hid hrs
  have OR := hid (off_low (n := k) (c := rc) (fun ad h => (hra ad h).1) HF1.out.lt)
  clear hvo hch hb2 hrs hra
  go_wp2_with fail
  refine (Vandermonde_ok fb t k (by omega) (by omega) h1 (by omega) _ HF2.out).mono ?_
  rintro e w3 ⟨vb, hvb, rfl, hV3, hB3, hk3⟩
  have HF3 := hid (show Fld w3 fb from .inr hB3)
  have HB3 := hid (HB2.out.trans (hk3.below HB2.out.size hfb))
  have HR3 := hid (HR2.out.kept hk3 OR.out)
  have HV3 := hid hV3
  have hvf : vb ≠ fb := by have := HF2.out.lt; omega
  clear hV3 hB3 hk3
  have hf3 := HF3.out.lt
  have hz3 : W.heap.size ≤ w3.heap.size := HB3.out.size
  have HFa := hid (HF3.out.alloc (Obj.cells #[.int .i64 t, .int .i64 k, .slice (some ⟨vb, 0, none⟩) (t * k : Nat) (t * k : Nat)] 52))
  have HRa := hid (HR3.out.alloc (Obj.cells #[.int .i64 t, .int .i64 k, .slice (some ⟨vb, 0, none⟩) (t * k : Nat) (t * k : Nat)] 52))
  have HBa := hid (HB3.out.alloc HB3.out.size (Obj.cells #[.int .i64 t, .int .i64 k, .slice (some ⟨vb, 0, none⟩) (t * k : Nat) (t * k : Nat)] 52))
  have HVa := hid (HV3.out.alloc (Obj.cells #[.int .i64 t, .int .i64 k, .slice (some ⟨vb, 0, none⟩) (t * k : Nat) (t * k : Nat)] 52))
  have BVa := hid (heap_new w3 (Obj.cells #[.int .i64 t, .int .i64 k, .slice (some ⟨vb, 0, none⟩) (t * k : Nat) (t * k : Nat)] 52))
  clear HF3 HR3 HB3 HV3 HF2 HR2 HB2 HF1 HB1
  go_wp2_with fail
  refine (Generator_ok fb t k h1 (by omega) (by omega) _ HFa.out).mono ?_
  rintro e w4 ⟨gb, hgb, rfl, hG4, hB4, hk4⟩
  have hsa := hk4.size
  have hgb' : w3.heap.size < gb := by simp at hgb; omega
  rw [World.size_alloc] at hsa
  have HF4 := hid (show Fld w4 fb from .inr hB4)
  have HR4 := hid (HRa.out.kept hk4 OR.out)
  have HB4 := hid (HBa.out.trans (hk4.below HBa.out.size hfb))
  have HV4 := hid (show Own w4 vb _ from hk4.hp HVa.out hvf)
  have BV4 := hid (hk4.hp BVa.out (by omega))
  have HG4 := hid hG4
  have hgf : gb ≠ fb := by omega
  clear hG4 hB4 hk4 HFa HRa HBa HVa BVa hgb
  have hf4 := HF4.out.lt
  have HFb := hid (HF4.out.alloc (Obj.cells #[.int .i64 t, .int .i64 k, .slice (some ⟨gb, 0, none⟩) (t * k : Nat) (t * k : Nat)] 52))
  have HRb := hid (HR4.out.alloc (Obj.cells #[.int .i64 t, .int .i64 k, .slice (some ⟨gb, 0, none⟩) (t * k : Nat) (t * k : Nat)] 52))
  have HBb := hid (HB4.out.alloc HB4.out.size (Obj.cells #[.int .i64 t, .int .i64 k, .slice (some ⟨gb, 0, none⟩) (t * k : Nat) (t * k : Nat)] 52))
  have HVb := hid (HV4.out.alloc (Obj.cells #[.int .i64 t, .int .i64 k, .slice (some ⟨gb, 0, none⟩) (t * k : Nat) (t * k : Nat)] 52))
  have HGb := hid (HG4.out.alloc (Obj.cells #[.int .i64 t, .int .i64 k, .slice (some ⟨gb, 0, none⟩) (t * k : Nat) (t * k : Nat)] 52))
  have BVb := hid (heap_alloc BV4.out (Obj.cells #[.int .i64 t, .int .i64 k, .slice (some ⟨gb, 0, none⟩) (t * k : Nat) (t * k : Nat)] 52))
  have BGb := hid (heap_new w4 (Obj.cells #[.int .i64 t, .int .i64 k, .slice (some ⟨gb, 0, none⟩) (t * k : Nat) (t * k : Nat)] 52))
  have hML : ∀ i j, (fun r c => if r < t then vdM r c else 0) i j < 256 := fun i j => by
    show (if i < t then Gf.pw i j else 0) < 256
    split
    · exact Gf.pw_lt _ (by omega) _
    · omega
  have HML := hid hML
  have hbV := HVb.out.bs (flat_lt hML) (t * k)
  rw [flat_length] at hbV
  have hbG := HGb.out.bs (flat_lt (genM_lt k)) (t * k)
  rw [flat_length] at hbG
  have HbV := hid hbV
  have HbG := hid hbG
  clear HF4 HR4 HB4 HV4 HG4 BV4 hML hbV hbG HVb HGb
  generalize htk : t * k = tk at *
  have HTK := hid htk
  clear htk
  obtain ⟨c0, c1, c2, _, _, _⟩ := c3_of BVb.out
  go_wp2_with fail
  refine (Select_ok t k (some ⟨vb, 0, none⟩) ra tk tk k rc k _ (asInts s) _ (by omega) (by omega) h1 (by omega) h1 (by omega) HTK.out.symm (Nat.le_refl _) HML.out HbV.out HRb.out HCH.out.stops).mono ?_
  rintro e w5 ⟨hsel, hb5, hcap⟩
  obtain ⟨aa, an, ac, rfl, hA5, hac, lowA⟩ := hsel.got hcap
  have hs5 := hb5.size
  rw [World.size_alloc] at hs5
  have HFc := hid ((HFb.out.sameA (hb5.block _ HFb.out.lt)).alloc (Obj.cells #[.int .i64 k, .int .i64 k, .slice aa an ac] 52))
  have HRc := hid ((HRb.out.below hb5).alloc (Obj.cells #[.int .i64 k, .int .i64 k, .slice aa an ac] 52))
  have HBc := hid ((known_end HBb.out hb5).alloc (known_end HBb.out hb5).size (Obj.cells #[.int .i64 k, .int .i64 k, .slice aa an ac] 52))
  have HbGc := hid ((HbG.out.below hb5).alloc (Obj.cells #[.int .i64 k, .int .i64 k, .slice aa an ac] 52))
  have BGc := hid (heap_alloc ((hb5.block _ (lt_of_heap BGb.out)).trans BGb.out) (Obj.cells #[.int .i64 k, .int .i64 k, .slice aa an ac] 52))
  have BAc := hid (heap_new w5 (Obj.cells #[.int .i64 k, .int .i64 k, .slice aa an ac] 52))
  have HAc := hid (hA5.alloc (Obj.cells #[.int .i64 k, .int .i64 k, .slice aa an ac] 52))
  have OA := hid (off_low (n := an) (c := ac) lowA HFb.out.lt)
  clear hsel hcap lowA hA5 hb5 c0 c1 c2 HFb HRb HBb HbV HbG BVb BGb
  obtain ⟨c0, c1, c2, _, _, _⟩ := c3_of BGc.out
  go_wp2_with fail
  refine (Select_ok t k (some ⟨gb, 0, none⟩) ra tk tk k rc k _ (asInts s) _ (by omega) (by omega) h1 (by omega) h1 (by omega) HTK.out.symm (Nat.le_refl _) (genM_lt k) HbGc.out HRc.out HCH.out.stops).mono ?_
  rintro e w6 ⟨hsel, hb6, hcap⟩
  obtain ⟨ba, bn, bc, rfl, hB6, hbc, lowB⟩ := hsel.got hcap
  have hs6 := hb6.size
  rw [World.size_alloc] at hs6
  have HFd := hid ((HFc.out.sameA (hb6.block _ HFc.out.lt)).alloc (Obj.cells #[.int .i64 k, .int .i64 k, .slice ba bn bc] 52))
  have HBd := hid ((known_end HBc.out hb6).alloc (known_end HBc.out hb6).size (Obj.cells #[.int .i64 k, .int .i64 k, .slice ba bn bc] 52))
  have HAd := hid ((HAc.out.below hb6).alloc (Obj.cells #[.int .i64 k, .int .i64 k, .slice ba bn bc] 52))
  have BAd := hid (heap_alloc ((hb6.block _ (lt_of_heap BAc.out)).trans BAc.out) (Obj.cells #[.int .i64 k, .int .i64 k, .slice ba bn bc] 52))
  have BBd := hid (heap_new w6 (Obj.cells #[.int .i64 k, .int .i64 k, .slice ba bn bc] 52))
  have HBd' := hid (hB6.alloc (Obj.cells #[.int .i64 k, .int .i64 k, .slice ba bn bc] 52))
  have OB := hid (off_low (n := bn) (c := bc) lowB HFc.out.lt)
  have ANL := hid (show an = k * k by rw [hid HAc.out |>.out.len, flat_length])
  have BNL := hid (show bn = k * k by rw [hB6.len, flat_length])
  clear hsel hcap lowB hB6 hb6 c0 c1 c2 HFc HRc HBc HbGc BGc BAc HAc
  have hxA : w5.heap.size ≠ fb := by omega
  have hxB : w6.heap.size ≠ fb := by omega
  obtain ⟨c0, c1, c2, _, _, _⟩ := c3_of BAd.out
  go_wp2_with fail
  refine (Inverse_ok fb k an ac aa _ _ HFd.out h1 (by omega) ANL.out hac (fun i j => selM_lt HML.out (asInts s) i j) HAd.out OA.out).mono ?_
  rintro e w7 ⟨hres, hB7, hk7⟩
  have hfullV := full_vd s k t (by omega) HCH.out.len HCH.out.nod HCH.out.lt (by omega)
  unfold InvRes at hres
  rw [rank_both, hfullV, if_neg (Nat.lt_irrefl k)] at hres
  obtain ⟨ia, im, ic, rfl, _, _⟩ := hres
  have hf7 := HFd.out.lt
  have HFe := hid ((show Fld w7 fb from .inr hB7).alloc (Obj.cells #[.int .i64 k, .int .i64 k, .slice ia im ic] 52))
  have HBe := hid ((HBd.out.trans (hk7.below HBd.out.size hfb)).alloc (HBd.out.trans (hk7.below HBd.out.size hfb)).size (Obj.cells #[.int .i64 k, .int .i64 k, .slice ia im ic] 52))
  have BBe := hid (heap_alloc (hk7.hp BBd.out hxB) (Obj.cells #[.int .i64 k, .int .i64 k, .slice ia im ic] 52))
  have HBe' := hid ((HBd'.out.kept hk7 OB.out).alloc (Obj.cells #[.int .i64 k, .int .i64 k, .slice ia im ic] 52))
  clear hB7 hk7 c0 c1 c2 HFd HBd HAd BAd BBd HBd' OA ANL hfullV hac
  have hfullG := full_gen s k t (by omega) HCH.out.len HCH.out.nod HCH.out.lt (by omega)
  have HFG := hid hfullG
  obtain ⟨c0, c1, c2, _, _, _⟩ := c3_of BBe.out
  go_wp2_with fail
  refine (Inverse_ok fb k bn bc ba _ _ HFe.out h1 (by omega) BNL.out hbc (fun i j => selM_lt (genM_lt k) (asInts s) i j) HBe'.out OB.out).mono ?_
  rintro e w8 ⟨hres, hB8, hk8⟩
  unfold InvRes at hres
  rw [rank_both, hfullG, if_neg (Nat.lt_irrefl k)] at hres
  obtain ⟨ja, jm, jc, rfl, _, _⟩ := hres
  have HFf := hid ((show Fld w8 fb from .inr hB8).alloc (Obj.cells #[.int .i64 k, .int .i64 k, .slice ja jm jc] 52))
  have HBf := hid ((HBe.out.trans (hk8.below HBe.out.size hfb)).alloc (HBe.out.trans (hk8.below HBe.out.size hfb)).size (Obj.cells #[.int .i64 k, .int .i64 k, .slice ja jm jc] 52))
  have BBf := hid (heap_alloc (hk8.hp BBe.out hxB) (Obj.cells #[.int .i64 k, .int .i64 k, .slice ja jm jc] 52))
  have HBf' := hid ((HBe'.out.kept hk8 OB.out).alloc (Obj.cells #[.int .i64 k, .int .i64 k, .slice ja jm jc] 52))
  clear hB8 hk8 c0 c1 c2 HFe HBe BBe HBe' hfullG
  obtain ⟨c0, c1, c2, _, _, _⟩ := c3_of BBf.out
  go_wp2_with fail
  refine (Rank_ok fb k k bn bc ba _ _ HFf.out h1 (by omega) h1 (by omega) BNL.out (fun i j => selM_lt (genM_lt k) (asInts s) i j) HBf'.out OB.out).mono ?_
  rw [HFG.out]
  rintro e w9 ⟨rfl, hB9, hk9⟩
  have HBg := hid (HBf.out.trans (hk9.below HBf.out.size hfb))
  clear hB9 hk9 c0 c1 c2 HFf HBf BBf HBf'
  go_wp2_with fail
  refine (known_any _).mono ?_
  rintro e w10 ⟨rfl, hb10⟩
  go_wp2
  go_ret
  exact ⟨rfl, known_end HBg.out hb10⟩

set_option maxRecDepth 100000 in
theorem anyrows_walk (W : World) (k : Int) (wk : (Lit.int .i64 k).wf = true) (t : Int) (wt : (Lit.int .i64 t).wf = true) (la : Option Addr) (m lc : Nat) (l : List Int) (hl : Is W (.slice la m lc) l) (hlc : m ≤ lc) (hnl : la = none → lc = 0) :
    Calls Try.prog 25 #[.int .i64 k, .int .i64 t, .slice la m lc] W fun e w' => e = .returned (.bool true) ∧ Below W.heap.size W w' := by
  clear wk wt
  by_cases h : 1 ≤ k ∧ k ≤ t ∧ t ≤ 40 ∧ m ≤ 40
  · obtain ⟨h1, h2, h3, h4⟩ := h
    obtain ⟨kn, rfl⟩ : ∃ n : Nat, k = n := ⟨k.toNat, by omega⟩
    obtain ⟨tn, rfl⟩ : ∃ n : Nat, t = n := ⟨t.toNat, by omega⟩
    exact anyrows_in W kn tn (by omega) (by omega) (by omega) la m lc l hl h4
  · clear hl hnl
    by_cases h1 : k < 1
    · have b1 : decide (k < 1) = true := by simpa using h1
      clear h h1
      go_enter Try.func25, Try.ntmps25
      go_wp2_with fail
      refine (known_any _).mono ?_
      rintro e w3 ⟨rfl, hb3⟩
      go_wp2
      go_ret
      exact ⟨rfl, hb3⟩
    have b1 : decide (k < 1) = false := by simp; omega
    by_cases h2 : t < k
    · have b2 : decide (t < k) = true := by simpa using h2
      clear h h1 h2
      go_enter Try.func25, Try.ntmps25
      go_wp2_with fail
      refine (known_any _).mono ?_
      rintro e w3 ⟨rfl, hb3⟩
      go_wp2
      go_ret
      exact ⟨rfl, hb3⟩
    have b2 : decide (t < k) = false := by simp; omega
    by_cases h3 : 40 < t
    · have b3 : decide (40 < t) = true := by simpa using h3
      clear h h1 h2 h3
      go_enter Try.func25, Try.ntmps25
      go_wp2_with fail
      refine (known_any _).mono ?_
      rintro e w3 ⟨rfl, hb3⟩
      go_wp2
      go_ret
      exact ⟨rfl, hb3⟩
    have b3 : decide (40 < t) = false := by simp; omega
    have b4 : decide ((40 : Int) < (m : Int)) = true := by simp; omega
    clear h h1 h2 h3
    go_enter Try.func25, Try.ntmps25
    go_wp2_with fail
    refine (known_any _).mono ?_
    rintro e w3 ⟨rfl, hb3⟩
    go_wp2
    go_ret
    exact ⟨rfl, hb3⟩
end Go.Proofs.Ytbajekiliplclaa
