/-
  The walk of the law that the first k pieces are the object followed by zeros.
-/
import Derived.Test.YtfleplbdcpdphaaKnown
import Derived.Test.YtfleplbdcpdphaaApp
namespace Go.Proofs.Ytfleplbdcpdphaa
open Go.RowKit

/-- the extended data, its first n bytes -/
def ext (d : List Nat) (n : Nat) : List Nat := (List.range n).map fun c => d.getD c 0
theorem ext_length (d : List Nat) (n : Nat) : (ext d n).length = n := by simp [ext]
theorem ext_spl (d : List Nat) (L m : Nat) : ext d (m * L) ++ spl d L m = ext d ((m + 1) * L) := by
  unfold ext spl
  rw [Nat.succ_mul, List.range_add, List.map_append, List.map_map]
  rfl
theorem bstr_append (a b : List Nat) : bstr a ++ bstr b = bstr (a ++ b) := by
  unfold bstr
  rw [Go.ByteArray.mk_append_mk, List.map_append]
theorem bstr_size (l : List Nat) : (bstr l).size = l.length := by simp [bstr, ByteArray.size]
theorem bstr_get (l : List Nat) (i : Nat) (h : i < (bstr l).size) (h2 : i < l.length) : (bstr l)[i] = UInt8.ofNat l[i] := by
  have e : (bstr l).data.toList[i]? = some (UInt8.ofNat l[i]) := by
    simp [bstr, List.getElem?_eq_getElem h2]
  have e2 : (bstr l).data.toList[i]? = some (bstr l)[i] := by
    rw [Array.getElem?_toList]
    exact Array.getElem?_eq_getElem h
  rw [e] at e2
  exact (Option.some.inj e2).symm
theorem bstr_extract (l : List Nat) (n : Nat) (_h : n ≤ l.length) : (bstr l).extract 0 n = bstr (l.take n) := by
  apply ByteArray.ext
  simp [bstr]
theorem ext_take (d : List Nat) (n : Nat) (h : d.length ≤ n) : (ext d n).take d.length = d := by
  apply ext_getD
  · simp [ext_length]; omega
  · intro i hi
    have hi2 : i < d.length := by rw [List.length_take, ext_length] at hi; omega
    unfold ext
    rw [List.getD_eq_getElem?_getD, List.getElem?_take_of_lt hi2, List.getElem?_map, List.getElem?_range (by omega)]
    rfl
theorem ext_zero (d : List Nat) (n i : Nat) (h : i < (ext d n).length) (hd : d.length ≤ i) : (ext d n)[i] = 0 := by
  simp only [ext, List.getElem_map, List.getElem_range]
  rw [List.getD_eq_getElem?_getD, List.getElem?_eq_none hd]; rfl
theorem encP_length (d : List Nat) (k L i : Nat) : (encP d k L i).length = L := by
  unfold encP
  split
  · exact spl_length _ _ _
  · exact mixL_length _ _ _ _
theorem encP_lt (d : List Nat) (hd : ∀ i, d.getD i 0 < 256) (k L i : Nat) : ∀ n ∈ encP d k L i, n < 256 := by
  unfold encP
  split
  · intro n hn
    unfold spl at hn
    obtain ⟨c, _, rfl⟩ := List.mem_map.1 hn
    exact hd _
  · exact mixL_lt _ _ _ _ (fun i => getD_lt (wts_lt _ _ _) i)

/-- the law where its sizes are out of range -/
theorem known_end {W w w' : World} (h : Below W.heap.size W w) (h2 : Below w.heap.size w w') : Below W.heap.size W w' := h.trans (h2.mono h.size)

set_option maxRecDepth 100000 in
set_option maxHeartbeats 1000000 in
theorem systematic_in (W : World) (k t : Nat) (h1 : 1 ≤ k) (h2 : k ≤ t) (h3 : t ≤ 60) (a : Option Addr) (n c : Nat) (d : List Nat) (hd : Bs W (.slice a n c) d) (hn : n ≤ 8192) (hnil : a = none → c = 0) :
    Calls Try.prog 5 #[.int .i64 k, .int .i64 t, .slice a n c] W fun e w' => e = .returned (.bool true) ∧ Below W.heap.size W w' := by
  have b1 : decide ((k : Int) < 1) = false := by simp; omega
  have b2 : decide ((t : Int) < (k : Int)) = false := by simp; omega
  have b3 : decide ((60 : Int) < (t : Int)) = false := by simp; omega
  have b4 : decide ((8192 : Int) < (n : Int)) = false := by simp; omega
  go_enter Try.func5, Try.ntmps5
  go_wp2_with fail
  refine (newField_any _).mono ?_
  rintro e w1 ⟨rfl, hfr, hb1⟩
  have hd1 := hd.below hb1
  have hf1 := lt_of_heap hfr
  go_wp2_with (refine wpList_clone rfl (.tmp 35) (.tmp 36) rfl w1.heap.size rfl ?hg0 a n c d rfl ?hb hnil (by omega) ?_)
  case hg0 => exact heap_new _ _
  case hb => exact hd1.alloc _
  intro a' c' w2 hd2 hnc' hlow _ hk2
  go_wp2_with fail
  have hsz : W.heap.size ≤ w1.heap.size := hb1.size
  have hfr2 : Fresh w2 W.heap.size := (hk2.block W.heap.size (by simp; omega) (by omega)).trans (heap_alloc hfr _)
  have hoff : Off W.heap.size (.slice a' n c') := by
    cases a' with
    | none => trivial
    | some ad => show ad.block ≠ W.heap.size; have := hlow ad rfl; omega
  have hb2 : Below W.heap.size W w2 := hb1.trans (((Below.refl _ _).alloc hsz _).trans (hk2.below (by simp; omega) hsz))
  refine (Encode_any W.heap.size k t a' n c' d _ (.inl hfr2) hd2 hoff hnc' h1 h2 (by omega) hn).mono ?_
  rintro e w3 ⟨g, bf, hg, rfl, hp, hB3, hk3⟩
  have hb3 : Below W.heap.size W w3 := hb2.trans (hk3.below hb2.size (Nat.le_refl _))
  go_wp2_with fail
  refine (size_ok k n h1 (by omega) hn _).mono ?_
  rintro e w' ⟨rfl, rfl⟩
  have hge := plen_ge k n h1
  have hlt := plen_lt k n
  have hle := plen_le k n h1
  have hup : k * plen k n < n + k := by
    by_cases h0 : plen k n = 0
    · rw [h0]; omega
    · have := hlt (plen k n - 1) h1 (by omega)
      have e : k * plen k n = k * (plen k n - 1) + k := by
        conv => lhs; rw [show plen k n = (plen k n - 1) + 1 from by omega, Nat.mul_succ]
      omega
  clear hlt hfr2 hd1 hd2 hoff hb1 hb2 hk2 hk3 hlow hB3 hfr hf1 hsz hnc'
  have hcast : ((k : Int) * (plen k n : Int)) = ((k * plen k n : Nat) : Int) := rfl
  generalize hL : plen k n = L at *
  have HL := hid hL
  clear hL
  generalize hkl : k * L = kL at *
  have HKL := hid hkl
  have HP := hid hp
  clear hkl hp
  have u1 : decide ((kL : Int) < (n : Int)) = false := by simp; omega
  have u2 : decide ((k : Int) ≤ (kL : Int) - (n : Int)) = false := by simp; omega
  go_wp2_with fail
  have hLb : L ≤ 8192 := by omega
  have HDL := hid hd.len
  have HDLT := hid hd.lt
  have hbstr0 : (⟨#[]⟩ : ByteArray) = bstr (ext d (0 * L)) := by rw [Nat.zero_mul]; rfl
  rw [hbstr0]
  clear hbstr0
  go_loopw [11, 12] (fun sv iv wr => ∃ i : Nat, i ≤ t ∧ iv = .int .i64 i ∧ sv = .string (bstr (ext d (min i k * L))) ∧ Hid (wr = w3)) (fun _ iv _ => t - (intOf iv).toNat)
  case atStart => exact ⟨0, by omega, rfl, by rw [Nat.zero_min], hid rfl⟩
  case round =>
    obtain ⟨i, hi, rfl, rfl, hw⟩ := hrel
    have hw' := hw.out
    subst hw'
    clear hw
    have hml : min i k * L ≤ kL := by rw [← HKL.out]; exact Nat.mul_le_mul_right _ (Nat.min_le_right _ _)
    have hsz0 : (bstr (ext d (min i k * L))).size = min i k * L := by rw [bstr_size, ext_length]
    by_cases hlt : i < t
    · have c0 := HP.out.own.cell0 i (by rw [mkps_length]; exact hlt)
      have c1 := HP.out.own.cell1 i (by rw [mkps_length]; exact hlt)
      rw [mkps_get _ _ _ _ _ _ hlt] at c0 c1
      by_cases hik : i < k
      · have hrow := HP.out.row i hlt
        have hbs : Bs wr (.slice (some ⟨bf i, 0, none⟩) L L) (spl d L i) := by
          have h5 := hrow.bs (encP_lt d HDLT.out k L i) L
          rw [encP_length] at h5
          unfold encP at h5
          rwa [if_pos hik] at h5
        have hcv := conv_bs hbs
        have hmin : min i k = i := Nat.min_eq_left (by omega)
        have hmin2 : min (i + 1) k = i + 1 := Nat.min_eq_left (by omega)
        have happ := bstr_append (ext d (i * L)) (spl d L i)
        rw [ext_spl] at happ
        rw [hmin] at hsz0 hml ⊢
        have hsz1 : (bstr (spl d L i)).size = L := by rw [bstr_size, spl_length]
        have hadd : (bstr (ext d (i * L))).size + (bstr (spl d L i)).size ≤ 9223372036854775807 := by rw [hsz0, hsz1]; omega
        have HAPP := hid happ
        have HMIN2 := hid hmin2
        clear happ hmin hmin2 hsz0 hsz1 hrow hbs
        generalize bstr (ext d (i * L)) = S0 at *
        generalize bstr (spl d L i) = S1 at *
        go_wp2
        exact ⟨⟨i + 1, by omega, by go_num, by rw [HMIN2.out, HAPP.out], hid trivial⟩, by simp [intOf]; omega⟩
      · have hmin : min i k = k := Nat.min_eq_right (by omega)
        have hmin2 : min (i + 1) k = k := Nat.min_eq_right (by omega)
        rw [hmin]
        have HMIN2 := hid hmin2
        clear hmin hmin2 hsz0 hml
        generalize hS : bstr (ext d (k * L)) = S0 at *
        have HS := hid hS
        clear hS
        go_wp2
        exact ⟨⟨i + 1, by omega, by go_num, by rw [HMIN2.out, HS.out], hid trivial⟩, by simp [intOf]; omega⟩
    · obtain rfl : i = t := by omega
      have hmin : min i k = k := Nat.min_eq_right h2
      rw [hmin] at hsz0 ⊢
      clear hmin hml
      have hszk : (bstr (ext d (k * L))).size = kL := by rw [hsz0, HKL.out]
      have hzero : ∀ j, (h : j < (bstr (ext d (k * L))).size) → n ≤ j → ((bstr (ext d (k * L)))[j].toNat : Int) = 0 := fun j h hj => by
        have h5 : j < (ext d (k * L)).length := by rw [ext_length]; rw [hsz0] at h; exact h
        rw [bstr_get _ _ h h5, ext_zero d _ j h5 (by rw [← HDL.out]; exact hj)]
        rfl
      have hfin : (((bstr (ext d (k * L))).extract 0 n).toList == (bstr d).toList) = true := by
        rw [bstr_extract _ _ (by rw [ext_length, HKL.out]; omega), HDL.out, ext_take d _ (by rw [HKL.out, ← HDL.out]; omega)]
        exact beq_self_eq_true _
      have HZ := hid hzero
      have hcv := conv_bs (w := wr.drew) ((hd.below hb3).drewN 1)
      clear hzero hsz0
      generalize bstr (ext d (k * L)) = S at *
      have hszle : S.size ≤ kL := by omega
      have hszge : n ≤ S.size := by omega
      clear hszk
      go_wp2
      go_loop [13] (fun iv => ∃ j : Nat, n ≤ j ∧ j ≤ S.size ∧ iv = .int .i64 j) (fun iv => S.size - (intOf iv).toNat)
      case atStart => exact ⟨n, by omega, by omega, rfl⟩
      case round =>
        obtain ⟨j, hnj, hj, rfl⟩ := hrel
        by_cases hlt : j < S.size
        · have hz := HZ.out j hlt hnj
          go_wp2
          exact ⟨⟨j + 1, by omega, by omega, by go_num⟩, by simp [intOf]; omega⟩
        · go_wp2
          go_region_with (go_at_call 28; refine (known_any _).mono ?_; rintro e0 w5 ⟨rfl, hb5⟩)
          all_goals
            go_wp2
            go_ret
            exact ⟨rfl, (hb3.drew).trans (hb5.mono hb3.size)⟩
theorem systematic_walk (W : World) (k : Int) (_hk : (Lit.int .i64 k).wf = true) (t : Int) (_ht : (Lit.int .i64 t).wf = true) (a : Option Addr) (n c : Nat) (d : List Nat) (hd : Bs W (.slice a n c) d) (_hc : n ≤ c) (hnil : a = none → c = 0) :
    Calls Try.prog 5 #[.int .i64 k, .int .i64 t, .slice a n c] W fun e w' => e = .returned (.bool true) ∧ Below W.heap.size W w' := by
  by_cases h1 : k < 1
  · go_enter Try.func5, Try.ntmps5
    go_wp2_with (go_at_call 28; refine (known_any _).mono ?_; rintro e w1 ⟨rfl, hb⟩)
    go_ret
    exact ⟨rfl, hb⟩
  by_cases h2 : t < k
  · go_enter Try.func5, Try.ntmps5
    go_wp2_with (go_at_call 28; refine (known_any _).mono ?_; rintro e w1 ⟨rfl, hb⟩)
    go_ret
    exact ⟨rfl, hb⟩
  by_cases h3 : 60 < t
  · go_enter Try.func5, Try.ntmps5
    go_wp2_with (go_at_call 28; refine (known_any _).mono ?_; rintro e w1 ⟨rfl, hb⟩)
    go_ret
    exact ⟨rfl, hb⟩
  by_cases h4 : 8192 < n
  · go_enter Try.func5, Try.ntmps5
    go_wp2_with (go_at_call 28; refine (known_any _).mono ?_; rintro e w1 ⟨rfl, hb⟩)
    go_ret
    exact ⟨rfl, hb⟩
  obtain ⟨k, rfl⟩ : ∃ m : Nat, k = m := ⟨k.toNat, by omega⟩
  obtain ⟨t, rfl⟩ : ∃ m : Nat, t = m := ⟨t.toNat, by omega⟩
  exact systematic_in W k t (by omega) (by omega) (by omega) a n c d hd (by omega) hnil
end Go.Proofs.Ytfleplbdcpdphaa
