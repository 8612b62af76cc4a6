/-
  The walk of the law that encodings of different objects differ in many pieces.
-/
import Derived.Test.YtndkcabmaigneaaLawL
import Derived.Test.YtndkcabmaigneaaPoly
namespace Go.Proofs.Ytndkcabmaigneaa
open Go.RowKit
set_option linter.unusedVariables false

theorem rng_getD (k i : Nat) (h : i < k) : (List.range k).getD i 0 = i := by
  rw [List.getD_eq_getElem?_getD, List.getElem?_range h]; rfl
theorem range_lt (k : Nat) (hk : k ≤ 256) (i : Nat) : (List.range k).getD i 0 < 256 := by
  by_cases h : i < k
  · rw [rng_getD k i h]; omega
  · rw [List.getD_eq_getElem?_getD, List.getElem?_eq_none (by simp; omega)]; show 0 < 256; omega
/-- column c of an encoding is a polynomial's values -/
theorem encP_through (d : List Nat) (hd : ∀ i, d.getD i 0 < 256) (k L i c : Nat) (hc : c < L) : (encP d k L i).getD c 0 = through (List.range k) (fun j => d.getD (j * L + c) 0) i := by
  rw [encP_getD d k L i c hc]
  by_cases h : i < k
  · rw [if_pos h]
    have h2 := through_at (List.range k) List.nodup_range (fun j => d.getD (j * L + c) 0) (fun _ => hd _) i (by simpa using h)
    rw [rng_getD k i h] at h2
    exact h2.symm
  · rw [if_neg h]
    unfold through
    rw [List.length_range]
def cnt (A B : Nat → List Nat) : Nat → Nat | 0 => 0 | i + 1 => cnt A B i + if A i = B i then 0 else 1
theorem cnt_filter (A B : Nat → List Nat) : ∀ t, ((List.range t).filter fun i => decide (A i = B i)).length + cnt A B t = t
  | 0 => rfl
  | t + 1 => by
    have h := cnt_filter A B t
    rw [List.range_succ, List.filter_append, List.length_append]
    unfold cnt
    by_cases e : A t = B t
    · simp [e]; omega
    · simp [e]; omega
theorem cnt_le (A B : Nat → List Nat) : ∀ t, cnt A B t ≤ t
  | 0 => Nat.le_refl _
  | t + 1 => by have := cnt_le A B t; unfold cnt; split <;> omega
theorem distance (d d' : List Nat) (hd : ∀ i, d.getD i 0 < 256) (hd' : ∀ i, d'.getD i 0 < 256) (k t L p : Nat) (hk : k ≤ t) (ht : t ≤ 255) (hp : p < k * L) (hne : d.getD p 0 ≠ d'.getD p 0) : t + 1 ≤ cnt (encP d k L) (encP d' k L) t + k := by
  have h := cnt_filter (encP d k L) (encP d' k L) t
  refine Classical.byContradiction fun hlt => hne ?_
  generalize hS : (List.range t).filter (fun i => decide (encP d k L i = encP d' k L i)) = S at *
  have hL : 0 < L := by
    rcases Nat.eq_zero_or_pos L with e | e
    · subst e; omega
    · exact e
  have hc : p % L < L := Nat.mod_lt _ hL
  have hj : p / L < k := by
    rw [Nat.div_lt_iff_lt_mul hL]; exact hp
  have he : p / L * L + p % L = p := by rw [Nat.mul_comm]; exact Nat.div_add_mod p L
  have hnd : (S.take k).Nodup := by
    rw [← hS]
    exact (List.nodup_range.sublist List.filter_sublist).sublist (List.take_sublist _ _)
  have hmem : ∀ r ∈ S.take k, r < t ∧ encP d k L r = encP d' k L r := fun r hr => by
    have h1 := List.mem_of_mem_take hr
    rw [← hS, List.mem_filter, List.mem_range, decide_eq_true_iff] at h1
    exact h1
  have hpoly : ∀ e : List Nat, (∀ i, e.getD i 0 < 256) → Gf.P k (through (List.range k) (fun j => e.getD (j * L + p % L) 0)) := fun e he => by
    have := through_poly (List.range k) (range_lt k (by omega)) List.nodup_range (fun j => e.getD (j * L + p % L) 0) (fun _ => he _)
    rwa [List.length_range] at this
  have hsame := Gf.P.same (S.take k) (hpoly d hd) (hpoly d' hd') (by rw [List.length_take]; omega) hnd (fun r hr => by
    obtain ⟨h1, h2⟩ := hmem r hr
    refine ⟨by omega, ?_⟩
    rw [← encP_through d hd k L r _ hc, ← encP_through d' hd' k L r _ hc, h2]) (p / L) (by omega)
  have hat : ∀ e : List Nat, (∀ i, e.getD i 0 < 256) → through (List.range k) (fun j => e.getD (j * L + p % L) 0) (p / L) = e.getD p 0 := fun e h5 => by
    have := through_at (List.range k) List.nodup_range (fun j => e.getD (j * L + p % L) 0) (fun _ => h5 _) (p / L) (by simpa using hj)
    rw [rng_getD k _ hj] at this
    rw [this, he]
  rw [hat d hd, hat d' hd'] at hsame
  exact hsame
theorem xor_self_ne (a m : Nat) (hm : m ≠ 0) : a ≠ a ^^^ m := fun h => hm (by
  have h2 : a ^^^ a = a ^^^ (a ^^^ m) := by rw [← h]
  rw [Nat.xor_self, ← Nat.xor_assoc, Nat.xor_self, Nat.zero_xor] at h2
  exact h2.symm)
theorem bstr_beq (a b : List Nat) (ha : ∀ n ∈ a, n < 256) (hb : ∀ n ∈ b, n < 256) : ((bstr a).toList == (bstr b).toList) = decide (a = b) := by
  by_cases e : a = b
  · subst e; simp
  · rw [decide_eq_false e]
    refine beq_eq_false_iff_ne.2 fun h => e (bstr_inj ha hb ?_)
    have : ∀ s : ByteArray, s.toList = s.data.toList := fun s => Go.ByteArray.toList_eq s
    rw [this, this] at h
    apply ByteArray.ext
    exact Array.toList_inj.1 h

set_option maxRecDepth 100000 in
set_option maxHeartbeats 1000000 in
theorem distance_in (W : World) (k t p : Nat) (h1 : 1 ≤ k) (h2 : k ≤ t) (h3 : t ≤ 30) (S I : Int) (da oa ia pa : Option Addr) (n dc on oc il ic pl pc : Nat) (d : List Nat) (Wh : Int) (M : Nat)
    (hd : Bs W (.slice da n dc) d) (hdn : da = none → dc = 0) (hn : n ≤ 2000) (hp : p < n) (hM : M < 256) (hM0 : M ≠ 0) :
    Calls Try.prog 10 #[.agg #[.int .i64 k, .int .i64 t, .int .i64 S, .int .i64 I, .slice da n dc, .slice oa on oc, .slice ia il ic, .int .i64 Wh, .int .i64 p, .int .u8 M, .slice pa pl pc]] W fun e w' => e = .returned (.bool true) ∧ Below W.heap.size W w' := by
  have b1 : decide ((k : Int) < 1) = false := by simp; omega
  have b2 : decide ((t : Int) < (k : Int)) = false := by simp; omega
  have b3 : decide ((30 : Int) < (t : Int)) = false := by simp; omega
  have b4 : decide ((2000 : Int) < (n : Int)) = false := by simp; omega
  have b5 : decide ((p : Int) < 0) = false := by simp
  have b6 : decide ((n : Int) ≤ (p : Int)) = false := by simp; omega
  have b7 : ((M : Int) == 0) = false := by simp; omega
  go_enter Try.func10, Try.ntmps10
  go_wp2_with fail
  go_quiet (fail)
  go_wp2_with fail
  obtain ⟨w1, hw1⟩ : ∃ w1, w1 = (W.alloc (Obj.cells #[.int .i64 k, .int .i64 t, .int .i64 S, .int .i64 I, .slice da n dc, .slice oa on oc, .slice ia il ic, .int .i64 Wh, .int .i64 p, .int .u8 M, .slice pa pl pc] 39)).drewN nq := ⟨_, rfl⟩
  have hW1 : Below W.heap.size W w1 := by rw [hw1]; exact bel_drewN ((Below.refl _ _).alloc (Nat.le_refl _) _) _
  rw [← hw1]
  clear hw1
  refine (newField_any _).mono ?_
  rintro e w2 ⟨rfl, hfr, hb2⟩
  have hd2 := (hd.below hW1).below hb2
  have hdl := hd.len
  have hdlt : ∀ i, d.getD i 0 < 256 := hd.lt
  have hf2 := lt_of_heap hfr
  have HDL := hid hdl
  have HDLT := hid hdlt
  clear hdl hdlt
  go_wp2_with (refine wpList_cloneB rfl (.tmp 58) (.tmp 59) rfl w2.heap.size rfl (heap_new w2 _) da n dc d rfl (hd2.alloc _) hdn (by omega) ?_)
  intro a' c' w3 hd3 hnc3 hlow3 hnil3 hk3 hown3
  have hsz3 := hk3.size
  have hsW1 := hW1.size
  rw [World.size_alloc] at hsz3
  obtain ⟨g, rfl, hWg, hB, hnn⟩ := buf_of_owns hown3 (by omega)
  clear hnn
  have hb23 : Below w2.heap.size w2 w3 := ((Below.refl _ _).alloc (Nat.le_refl _) _).trans (hk3.below (by simp) (Nat.le_refl _))
  have hW3 : Below W.heap.size W w3 := hW1.trans ((hb2.trans (hb23.mono hb2.size)).mono hW1.size)
  have hFr3 : Fresh w3 w1.heap.size := (hb23.block _ hf2).trans hfr
  have hn3 : w1.heap.size < w3.heap.size := by omega
  have hsz21 := hb2.size
  have hdm : d.getD p 0 ≠ (d.set p (d.getD p 0 ^^^ M)).getD p 0 := by
    have h5 : (d.set p (d.getD p 0 ^^^ M)).getD p 0 = d.getD p 0 ^^^ M := by
      rw [List.getD_eq_getElem?_getD, List.getElem?_set, if_pos rfl, if_pos (by rw [← HDL.out]; exact hp)]; rfl
    rw [h5]
    exact xor_self_ne _ _ hM0
  have HDM := hid hdm
  have cs := hB.cell p (by rw [← HDL.out]; exact hp)
  have fs := hB.free p
  have hx := xor_int (d.getD p 0) M (HDLT.out p) hM
  obtain ⟨w4, hw4⟩ : ∃ w4, w4 = w3.setCell ⟨g, p, none⟩ (.int .u8 ((d.getD p 0 ^^^ M : Nat) : Int)) := ⟨_, rfl⟩
  have hst : Buf w4 g c' (d.set p (d.getD p 0 ^^^ M)) := by rw [hw4]; exact hB.set p _ (by rw [← HDL.out]; exact hp)
  have hs4 : w4.heap.size = w3.heap.size := by rw [hw4]; simp
  have hFr4 : Fresh w4 w1.heap.size := by rw [hw4]; exact (Below.heap_setCell _ _ _ _ (by show w1.heap.size ≠ g; omega)).trans hFr3
  have hW4 : Below W.heap.size W w4 := by rw [hw4]; exact hW3.setCell (by show W.heap.size ≤ g; omega) _
  have HW4 := hid hw4
  have hol : ∀ n ∈ d.set p (d.getD p 0 ^^^ M), n < 256 := fun x hx => by
    rcases List.mem_or_eq_of_mem_set hx with h | rfl
    · obtain ⟨_, _, _, h5, _⟩ := hd; exact h5 x h
    · exact Gf.xor_lt (HDLT.out p) hM
  have HOL := hid hol
  have HST := hid hst
  have HOO : Hid ((d.set p (d.getD p 0 ^^^ M)).length = n) := hid (by rw [List.length_set]; exact HDL.out.symm)
  clear hd2 hown3 hk3 hd3 hlow3 hb23 hst hdm hol hw4
  generalize d.set p (d.getD p 0 ^^^ M) = o at *
  generalize hxx : d.getD p 0 = x at *
  have HX := hid hxx
  clear hxx
  generalize x ^^^ M = y at *
  have hnew := heap_new w4 (Obj.cells #[] 5)
  have hbd := (hd.below hW4).alloc (Obj.cells #[] 5)
  rw [hs4, HW4.out] at hnew
  rw [HW4.out] at hbd
  have HNEW := hid hnew
  have HBD := hid hbd
  clear hnew hbd
  go_wp2_with (refine wpList_clone rfl (.tmp 72) (.tmp 73) rfl w3.heap.size rfl HNEW.out da n dc d rfl HBD.out hdn (by omega) ?_)
  intro a1 c1 w5 hd5 hnc5 hlow5 _ hk5
  rw [← HW4.out, ← hs4] at hk5
  have hB5 : Below w4.heap.size w4 w5 := ((Below.refl _ _).alloc (Nat.le_refl _) _).trans (hk5.below (by simp) (Nat.le_refl _))
  have hoff5 : Off w1.heap.size (.slice a1 n c1) := by
    cases a1 with
    | none => trivial
    | some ad => show ad.block ≠ w1.heap.size; have := hlow5 ad rfl; omega
  have hFr5 : Fresh w5 w1.heap.size := (hB5.block _ (by omega)).trans hFr4
  have hb4 := HST.out.bs HOL.out c'
  rw [HOO.out] at hb4
  have hoffS : Off w1.heap.size (.slice (some ⟨g, 0, none⟩) n c') := by show g ≠ w1.heap.size; omega
  have hs5 := hb4.below hB5
  have hz5 := hB5.size
  clear hk5 hlow5
  go_wp2_with fail
  refine (Encode_any w1.heap.size k t a1 n c1 d _ (.inl hFr5) hd5 hoff5 hnc5 h1 h2 (by omega) (by omega)).mono ?_
  rintro e w6 ⟨g1, bf1, hg1, rfl, hp1, hB6, hk6⟩
  have hs6 := hs5.kept hk6 hoffS
  have hz6 := hk6.size
  have hW6 : Below W.heap.size W w6 := hW4.trans ((hB5.mono (by omega)).trans (hk6.below (by omega) (by omega)))
  clear hd5 hnc5 hs5 hFr5 hoff5
  go_wp2_with fail
  refine (Encode_any w1.heap.size k t (some ⟨g, 0, none⟩) n c' o _ (.inr hB6) hs6 hoffS hnc3 h1 h2 (by omega) (by omega)).mono ?_
  rintro e w7 ⟨g2, bf2, hg2, rfl, hp2, _, hk7⟩
  have hp17 := hp1.kept hk7 (by omega) (by omega)
  have hW7 : Below W.heap.size W w7 := hW6.trans (hk7.below (by omega) (by omega))
  have hpl := plen_ge k n h1
  have hdis := distance d o HDLT.out (fun i => getD_lt HOL.out i) k t (plen k n) p h2 (by omega) (by omega) (by rw [HX.out]; exact HDM.out)
  have hcl := fun i => cnt_le (encP d k (plen k n)) (encP o k (plen k n)) i
  have HP1 := hid hp17
  have HP2 := hid hp2
  have HW7 := hid hW7
  have hs7 := hW7.size
  have HDIS := hid hdis
  have HCL := hid hcl
  clear hp17 hp1 hp2 hW7 hW6 hW4 hk6 hk7 hB5 hB6 hs6 hd hnc3 hW1 hb2 hfr hFr4 hFr3 hW3 hb4 hoffS hg1 hg2 hpl hdis hcl cs fs hx
  generalize plen k n = L at *
  go_wp2_with fail
  go_loopw [14, 15] (fun nv iv wr => ∃ i : Nat, i ≤ t ∧ iv = .int .i64 i ∧ nv = .int .i64 (cnt (encP d k L) (encP o k L) i : Nat) ∧ Hid (Below w7.heap.size w7 wr)) (fun _ iv _ => t - (intOf iv).toNat)
  case atStart => exact ⟨0, by omega, rfl, rfl, hid (Below.refl _ _)⟩
  case round =>
    obtain ⟨i, hi, rfl, rfl, HB⟩ := hrel
    by_cases hlt : i < t
    · have e1 := (HP1.out.below HB.out).own.cell1 i (by rw [mkps_length]; exact hlt)
      have e2 := (HP2.out.below HB.out).own.cell1 i (by rw [mkps_length]; exact hlt)
      rw [mkps_get _ _ _ _ _ _ hlt] at e1 e2
      by_cases heq : encP d k L i = encP o k L i
      · have cvA := fun q => conv_bs ((row_bs HDLT.out ((HP1.out.below HB.out).row i hlt)).drewN q)
        have cvB := fun q => conv_bs ((row_bs (fun i => getD_lt HOL.out i) ((HP2.out.below HB.out).row i hlt)).drewN q)
        have hbq := bstr_beq _ _ (encP_lt d HDLT.out k L i) (encP_lt o (fun i => getD_lt HOL.out i) k L i)
        generalize bstr (encP d k L i) = S1 at *
        generalize bstr (encP o k L i) = S2 at *
        have hcl := HCL.out i
        have hcs : cnt (encP d k L) (encP o k L) (i + 1) = cnt (encP d k L) (encP o k L) i + if encP d k L i = encP o k L i then 0 else 1 := rfl
        rw [if_pos heq] at hcs
        rw [decide_eq_true heq] at hbq
        have HCS := hid hcs
        clear hcs heq
        generalize cnt (encP d k L) (encP o k L) i = m at *
        go_wp2
        go_quiet (fail)
        go_wp2
        exact ⟨⟨i + 1, by omega, by go_num, by rw [HCS.out]; rfl, hid (bel_drewN HB.out nq)⟩, by simp [intOf]; omega⟩
      · have cvA := fun q => conv_bs ((row_bs HDLT.out ((HP1.out.below HB.out).row i hlt)).drewN q)
        have cvB := fun q => conv_bs ((row_bs (fun i => getD_lt HOL.out i) ((HP2.out.below HB.out).row i hlt)).drewN q)
        have hbq := bstr_beq _ _ (encP_lt d HDLT.out k L i) (encP_lt o (fun i => getD_lt HOL.out i) k L i)
        generalize bstr (encP d k L i) = S1 at *
        generalize bstr (encP o k L i) = S2 at *
        have hcl := HCL.out i
        have hcs : cnt (encP d k L) (encP o k L) (i + 1) = cnt (encP d k L) (encP o k L) i + if encP d k L i = encP o k L i then 0 else 1 := rfl
        rw [if_neg heq] at hcs
        rw [decide_eq_false heq] at hbq
        have HCS := hid hcs
        clear hcs heq
        generalize cnt (encP d k L) (encP o k L) i = m at *
        go_wp2
        go_quiet (fail)
        go_wp2
        exact ⟨⟨i + 1, by omega, by go_num, by rw [HCS.out]; go_num, hid (bel_drewN HB.out nq)⟩, by simp [intOf]; omega⟩
    · obtain rfl : i = t := by omega
      have hge := HDIS.out
      have hcl := HCL.out i
      generalize cnt (encP d k L) (encP o k L) i = m at *
      have bb : decide ((i : Int) - (k : Int) + 1 ≤ (m : Int)) = true := by simp; omega
      go_wp2_with fail
      refine (known_any _).mono ?_
      rintro e0 w9 ⟨rfl, hb9⟩
      go_wp2
      go_ret
      exact ⟨rfl, known_end (HW7.out.trans (HB.out.mono hs7)) hb9⟩
end Go.Proofs.Ytndkcabmaigneaa
