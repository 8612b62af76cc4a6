/-
  weights: the weight of each place in the value at x; bytes.IndexByte over bytes that read as a list.
-/
import Derived.Test.YtafkjfpmjhfofaaDoorMul
import Derived.Test.YtafkjfpmjhfofaaDoorBytes
import Derived.Test.YtafkjfpmjhfofaaDoorLag
import Derived.Deep.RegionWith
import Derived.Lib.BytesEntry
import Derived.Test.YtafkjfpmjhfofaaDoorQT
namespace Go.Proofs.YtafkjfpmjhfofaaDoor
open Go.RowKit

/-- the product of x with the first k places -/
def pxTo (l : List Nat) (x : Nat) : Nat → Nat
  | 0 => 1
  | k + 1 => Gf.tm (pxTo l x k) (x ^^^ l.getD k 0)
def wt (l sc : List Nat) (x i : Nat) : Nat := Gf.tm (Gf.tm (pxTo l x l.length) (Gf.iv (x ^^^ l.getD i 0))) (sc.getD i 0)
/-- the weights -/
def wts (l sc : List Nat) (x : Nat) : List Nat :=
  if x ∈ l then (List.replicate l.length 0).set (l.idxOf x) 1 else (List.range l.length).map (wt l sc x)
def ints (l : List Nat) : List Int := l.map fun (n : Nat) => (n : Int)
theorem ints_getD (l : List Nat) (i : Nat) : (ints l).getD i 0 = ((l.getD i 0 : Nat) : Int) := by
  unfold ints
  rw [List.getD_eq_getElem?_getD, List.getD_eq_getElem?_getD, List.getElem?_map]
  cases l[i]? <;> rfl
theorem u8_inj : ∀ a : Nat, a < 256 → ∀ b : Nat, b < 256 → ((a : Int).toNat.toUInt8 == (b : Int).toNat.toUInt8) = decide (a = b) := by
  intro a ha b hb
  rw [Bool.eq_iff_iff]
  simp only [Int.toNat_natCast, beq_iff_eq, decide_eq_true_eq]
  constructor
  · intro h
    have := congrArg UInt8.toNat h
    simp at this
    omega
  · intro h; rw [h]
theorem index_ints (x : Nat) (hx : x < 256) : ∀ l : List Nat, (∀ n ∈ l, n < 256) → Lib.indexByte (Lib.bytesOf (ints l)) (x : Int).toNat.toUInt8 = if x ∈ l then ((l.idxOf x : Nat) : Int) else -1
  | [], _ => rfl
  | a :: l, h => by
    have ih := index_ints x hx l (fun n hn => h n (by simp [hn]))
    show (if (a : Int).toNat.toUInt8 == (x : Int).toNat.toUInt8 then (0 : Int) else if Lib.indexByte (Lib.bytesOf (ints l)) (x : Int).toNat.toUInt8 == -1 then -1 else Lib.indexByte (Lib.bytesOf (ints l)) (x : Int).toNat.toUInt8 + 1) = _
    rw [u8_inj a (h a (by simp)) x hx, ih]
    by_cases e : a = x
    · subst e; simp
    · have e' : ¬ x = a := fun h => e h.symm
      by_cases hm : x ∈ l
      · have hne : (((l.idxOf x : Nat) : Int) == -1) = false := by simp
        have he : (a == x) = false := by simp [e]
        simp [e, hm, List.idxOf_cons, hne, he]
      · simp [e, e', hm]

def ixOf (l : List Nat) (x : Nat) : Int := if x ∈ l then ((l.idxOf x : Nat) : Int) else -1
set_option maxRecDepth 100000 in
theorem indexByte_any (b o c : Nat) (l : List Nat) (n x : Nat) (p : Int) (hp : p = ixOf l x) (hx : x < 256) (w : World) (hl : Bs w (.slice (some ⟨b, o, none⟩) n c) l) :
    Calls Tryd.prog 100 #[.slice (some ⟨b, o, none⟩) n c, .int .u8 x] w fun e w' => e = .returned (.int .i64 p) ∧ w = w' := by
  have hnl := hl.len
  have hrun := Lib.run_indexByteSlice (P := Tryd.prog) w b o n c (ints l) (by simp [ints, hnl]) (fun i hi => by rw [ints_getD]; exact hl.cell i (by omega)) x
  have h2 := index_ints x hx l (by obtain ⟨_, _, _, h, _⟩ := hl; exact h)
  rw [h2] at hrun
  unfold ixOf at hp
  rw [← hp] at hrun
  have HRUN := hid hrun
  clear h2 hrun hp hnl
  go_enter Tryd.func100, Tryd.ntmps100
  go_wp2
  rw [run_callFunc_extern Tryd.func106 (by kernel_rfl) (by kernel_rfl) (by kernel_rfl) (e := Extern.BytealgIndexByte.indexByte) (by kernel_rfl), HRUN.out]
  simp only [Result.andThen]
  rw [Oper.upon_value]
  go_wp2
  go_ret
  exact ⟨rfl, rfl⟩

theorem pxTo_lt (l : List Nat) (x : Nat) : ∀ k, pxTo l x k < 256
  | 0 => by show 1 < 256; omega
  | k + 1 => Gf.tm_lt _ _ (pxTo_lt l x k)
def wtsTo (l sc : List Nat) (x k : Nat) : List Nat := (List.range l.length).map fun i => if i < k then wt l sc x i else 0
theorem wtsTo_zero (l sc : List Nat) (x : Nat) : wtsTo l sc x 0 = List.replicate l.length 0 := by
  apply List.ext_getElem?
  intro i
  unfold wtsTo
  by_cases hi : i < l.length
  · simp [hi]
  · rw [List.getElem?_eq_none (by simp; omega), List.getElem?_eq_none (by simp; omega)]
theorem wtsTo_all (l sc : List Nat) (x : Nat) : wtsTo l sc x l.length = (List.range l.length).map (wt l sc x) := by
  unfold wtsTo
  apply List.map_congr_left
  intro i hi
  rw [if_pos (List.mem_range.1 hi)]
theorem wtsTo_length (l sc : List Nat) (x k : Nat) : (wtsTo l sc x k).length = l.length := by simp [wtsTo]
theorem wtsTo_set (l sc : List Nat) (x k : Nat) (_hk : k < l.length) : (wtsTo l sc x k).set k (wt l sc x k) = wtsTo l sc x (k + 1) := by
  apply List.ext_getElem?
  intro i
  unfold wtsTo
  rw [List.getElem?_set]
  simp only [List.length_map, List.length_range, List.getElem?_map]
  by_cases h : k = i
  · subst h
    rw [if_pos rfl, if_pos (by omega), List.getElem?_range (by omega)]
    simp
  · rw [if_neg h]
    by_cases hi : i < l.length
    · rw [List.getElem?_range hi]
      simp only [Option.map_some]
      by_cases h2 : i < k
      · rw [if_pos h2, if_pos (by omega)]
      · rw [if_neg h2, if_neg (by omega)]
    · rw [List.getElem?_eq_none (by simp; omega)]; rfl
theorem wts_length (l sc : List Nat) (x : Nat) : (wts l sc x).length = l.length := by unfold wts; split <;> simp
theorem wts_lt (l sc : List Nat) (x : Nat) : ∀ n ∈ wts l sc x, n < 256 := by
  intro n hn
  unfold wts at hn
  split at hn
  · have := List.mem_or_eq_of_mem_set hn
    rcases this with h | h
    · have := List.eq_of_mem_replicate h; omega
    · omega
  · obtain ⟨i, _, rfl⟩ := List.mem_map.1 hn
    exact Gf.tm_lt _ _ (Gf.tm_lt _ _ (pxTo_lt _ _ _))

set_option maxRecDepth 100000 in
set_option maxHeartbeats 1000000 in
theorem weights_any (fb : Nat) (b o c sb so sc : Nat) (l scl : List Nat) (x : Nat) (hx : x < 256) (w : World) (hB : Built w fb) (hl : Bs w (.slice (some ⟨b, o, none⟩) l.length c) l) (hs : Bs w (.slice (some ⟨sb, so, none⟩) l.length sc) scl) (hn : l.length ≤ 256) :
    Calls Tryd.prog 86 #[.agg #[.pointer (some ⟨fb, 0, none⟩), .slice (some ⟨b, o, none⟩) l.length c, .slice (some ⟨sb, so, none⟩) l.length sc], .int .u8 x] w fun e w' => ∃ ob, w.heap.size ≤ ob ∧ e = .returned (.slice (some ⟨ob, 0, none⟩) l.length l.length) ∧ Own w' ob (wts l scl x) ∧ Below w.heap.size w w' := by
  obtain ⟨n, hnl⟩ : ∃ n, n = l.length := ⟨_, rfl⟩
  have HN := hid hnl
  rw [← hnl] at hl hs hn ⊢
  clear hnl
  have hmk := mk_u8 n (by omega)
  have HL := hid hl.lt
  have HSL := hid hs.lt
  by_cases hm : x ∈ l
  · obtain ⟨p, hp⟩ : ∃ p, p = l.idxOf x := ⟨_, rfl⟩
    have hpn : p < n := by rw [hp, HN.out]; exact List.idxOf_lt_length_of_mem hm
    have hwt : wts l scl x = (List.replicate n 0).set p 1 := by unfold wts; rw [if_pos hm, ← HN.out, hp]
    have hix : (p : Int) = ixOf l x := by unfold ixOf; rw [if_pos hm, hp]
    rw [hwt]
    have HIX := hid hix
    clear hix hwt hp hm hs HL HSL
    have hge : (0 : Int) ≤ (p : Int) := by omega
    have ho := own_zrow (w.alloc (Obj.cells #[Value.pointer (some ⟨fb, 0, none⟩), Value.slice (some ⟨b, o, none⟩) n c, Value.slice (some ⟨sb, so, none⟩) n sc] 106)) n
    rw [World.size_alloc] at ho
    have hc := ho.cell p (by simpa using hpn)
    have hf := ho.free p
    have hb : Below w.heap.size w ((w.alloc (Obj.cells #[Value.pointer (some ⟨fb, 0, none⟩), Value.slice (some ⟨b, o, none⟩) n c, Value.slice (some ⟨sb, so, none⟩) n sc] 106)).alloc (zrow n)) := ((Below.refl _ _).alloc (Nat.le_refl _) _).alloc (by simp) _
    go_enter Tryd.func86, Tryd.ntmps86
    go_wp2_with (go_at_call 100; refine (indexByte_any b o c l n x p HIX.out hx _ ((hl.alloc _).alloc _)).mono ?_; rintro e w' ⟨rfl, rfl⟩)
    go_ret
    exact ⟨w.heap.size + 1, by omega, rfl, ho.set p 1, hb.setCell (by simp) _⟩
  · have hwt : wts l scl x = wtsTo l scl x n := by unfold wts; rw [if_neg hm, HN.out, wtsTo_all]
    have hix : (-1 : Int) = ixOf l x := by unfold ixOf; rw [if_neg hm]
    have hne : ∀ i, i < n → x ≠ l.getD i 0 := fun i hi e => hm (by
      rw [e, List.getD_eq_getElem?_getD, List.getElem?_eq_getElem (by rw [← HN.out]; exact hi)]
      exact List.getElem_mem _)
    rw [hwt]
    have HIX := hid hix
    have HNE := hid hne
    clear hix hwt hm hne
    have ho := own_zrow (w.alloc (Obj.cells #[Value.pointer (some ⟨fb, 0, none⟩), Value.slice (some ⟨b, o, none⟩) n c, Value.slice (some ⟨sb, so, none⟩) n sc] 106)) n
    rw [World.size_alloc, HN.out, ← wtsTo_zero l scl x, ← HN.out] at ho
    have hb : Below w.heap.size w ((w.alloc (Obj.cells #[Value.pointer (some ⟨fb, 0, none⟩), Value.slice (some ⟨b, o, none⟩) n c, Value.slice (some ⟨sb, so, none⟩) n sc] 106)).alloc (zrow n)) := ((Below.refl _ _).alloc (Nat.le_refl _) _).alloc (by simp) _
    have hbox : ((w.alloc (Obj.cells #[Value.pointer (some ⟨fb, 0, none⟩), Value.slice (some ⟨b, o, none⟩) n c, Value.slice (some ⟨sb, so, none⟩) n sc] 106)).alloc (zrow n)).heap[w.heap.size]? = some (Obj.cells #[Value.pointer (some ⟨fb, 0, none⟩), Value.slice (some ⟨b, o, none⟩) n c, Value.slice (some ⟨sb, so, none⟩) n sc] 106) := heap_alloc (heap_new _ _) _
    have HBOX := hid hbox
    clear hbox
    go_enter Tryd.func86, Tryd.ntmps86
    go_wp2_with (go_at_call 100; refine (indexByte_any b o c l n x (-1) HIX.out hx _ ((hl.alloc _).alloc _)).mono ?_; rintro e w' ⟨rfl, rfl⟩)
    generalize hw1 : (w.alloc (Obj.cells #[Value.pointer (some ⟨fb, 0, none⟩), Value.slice (some ⟨b, o, none⟩) n c, Value.slice (some ⟨sb, so, none⟩) n sc] 106)).alloc (zrow n) = w1 at *
    clear hw1
    have hB1 := hB.below hb hB.lt
    have hl1 := hl.below hb
    have hs1 := hs.below hb
    go_loopw [8, 10, 32] (fun p _ j wr => ∃ m : Nat, m ≤ n ∧ j = .int .i64 m ∧ p = .int .u8 (pxTo l x m) ∧ ∃ q, Hid (wr = w1.drewN q)) (fun _ _ j _ => n - (intOf j).toNat)
    case atStart => exact ⟨0, by omega, rfl, rfl, 0, rfl⟩
    case round =>
      obtain ⟨m, hm, rfl, rfl, q, hw⟩ := hrel
      have hw' := hw.out
      subst hw'
      clear hw
      by_cases hlt : m < n
      · have cm := (hl1.drewN q).cell m (by rw [← HN.out]; exact hlt)
        have hml := HL.out m
        have hpl := pxTo_lt l x m
        have hst : pxTo l x (m + 1) = Gf.tm (pxTo l x m) (x ^^^ l.getD m 0) := rfl
        have HS := hid hst
        clear hst
        generalize l.getD m 0 = pm at *
        have hxi := u8_xor_nat x pm hx hml
        have hxl := Gf.xor_lt hx hml
        generalize x ^^^ pm = xx at *
        generalize pxTo l x m = pp at *
        go_wp2_with (go_at_call 98; refine (mul_any fb pp xx hpl hxl _ (hB1.drewN q)).mono ?_; rintro e w' ⟨rfl, r, rfl⟩)
        go_roundw
        case rel => exact ⟨m + 1, by omega, by go_num, by rw [HS.out], q + r, hid rfl⟩
        case measure => simp [intOf]; omega
      · obtain rfl : m = n := by omega
        have hx0 : (w1.drewN q).cell? ⟨w.heap.size, 0, none⟩ = some (Value.pointer (some ⟨fb, 0, none⟩)) := cell_of_heap HBOX.out 0
        have hx1 : (w1.drewN q).cell? ⟨w.heap.size, 1, none⟩ = some (Value.slice (some ⟨b, o, none⟩) m c) := cell_of_heap HBOX.out 1
        have hpx := pxTo_lt l x m
        have hpe : ∀ i, i < m → wt l scl x i = Gf.tm (Gf.tm (pxTo l x m) (Gf.iv (x ^^^ l.getD i 0))) (scl.getD i 0) := fun i _ => by unfold wt; rw [← HN.out]
        have HPE := hid hpe
        clear hpe
        generalize pxTo l x m = pp at *
        go_wp2
        clear hmk hx0 hx1
        go_loopw [11, 12, 46] (fun _ _ j wr => ∃ k : Nat, k ≤ m ∧ j = .int .i64 k ∧ Own wr (w.heap.size + 1) (wtsTo l scl x k) ∧ Below w.heap.size w wr ∧ Hid (wr.heap[w.heap.size]? = some (Obj.cells #[Value.pointer (some ⟨fb, 0, none⟩), Value.slice (some ⟨b, o, none⟩) m c, Value.slice (some ⟨sb, so, none⟩) m sc] 106))) (fun _ _ j _ => m - (intOf j).toNat)
        case atStart => exact ⟨0, by omega, rfl, ho.drewN q, bel_drewN hb q, hid HBOX.out⟩
        case round =>
          clear ho hb HBOX
          obtain ⟨k, hk, rfl, ho, hb, HBOX⟩ := hrel
          have hBr := hB.below hb hB.lt
          by_cases hlt2 : k < m
          · have ck := (hl.below hb).cell k (by rw [← HN.out]; exact hlt2)
            have cs := (hs.below hb).cell k (by rw [← hs.len]; exact hlt2)
            have hx2 : wr.cell? ⟨w.heap.size, 2, none⟩ = some (Value.slice (some ⟨sb, so, none⟩) m sc) := cell_of_heap HBOX.out 2
            have co := ho.cell k (by rw [wtsTo_length, ← HN.out]; exact hlt2)
            have fo := ho.free k
            have hkl := HL.out k
            have hks := HSL.out k
            have hwk := HPE.out k hlt2
            have hne := HNE.out k hlt2
            generalize l.getD k 0 = pk at *
            generalize scl.getD k 0 = sk at *
            have hxi := u8_xor_nat x pk hx hkl
            have hxl := Gf.xor_lt hx hkl
            have hx0 := xor_ne hne
            have hil := Gf.iv_lt (x ^^^ pk)
            have hml := Gf.tm_lt pp (Gf.iv (x ^^^ pk)) hpx
            have HWK := hid hwk
            clear hwk hne
            generalize x ^^^ pk = xx at *
            have HX0 := hid hx0
            clear hx0
            generalize hqq : Gf.tm pp (Gf.iv xx) = qq at *
            have HQQ := hid hqq
            clear hqq
            have hmul2 : ∀ w, Built w fb → Calls Tryd.prog 98 #[.pointer (some ⟨fb, 0, none⟩), .int .u8 pp, .int .u8 (Gf.iv xx)] w fun e w' => e = .returned (.int .u8 qq) ∧ ∃ n, w' = w.drewN n := fun w hw => by
              have := mul_any fb pp (Gf.iv xx) hpx hil w hw
              rwa [HQQ.out] at this
            have HM2 := hid hmul2
            clear hmul2
            go_wp2
            refine region_quiet_tail 18 (by kernel_rfl) (by kernel_rfl) ?_
            simp only [List.take_succ_cons, List.take_zero, List.drop_succ_cons, List.drop_zero]
            repeat (quiet_step ((first | (go_at_call 99; exact Calls.quiet_of (inverse_any fb xx hxl HX0.out _ (hBr.drewN _))) | (go_at_call_of 98 (Value.int .u8 (sk : Int)); exact Calls.quiet_of (mul_any fb qq sk hml hks _ (hBr.drewN _))) | (go_at_call 98; exact Calls.quiet_of (HM2.out _ (hBr.drewN _))))))
            refine wpQuiet_nil ?_
            intro nq
            go_wp2
            refine ⟨⟨k + 1, by omega, by go_num, ?_, ?_, ?_⟩, by simp [intOf]; omega⟩
            · have h5 := (ho.drewN nq).set k (Gf.tm qq sk)
              rw [← wtsTo_set l scl x k (by rw [← HN.out]; exact hlt2), HWK.out]
              exact h5
            · exact (bel_drewN hb _).setCell (by simp) _
            · exact (Below.heap_setCell _ _ _ _ (by simp)).trans HBOX.out
          · obtain rfl : k = m := by omega
            go_wp2
            go_ret
            exact ⟨w.heap.size + 1, by omega, rfl, ho, hb⟩
theorem weights_n (fb : Nat) (b o c sb so sc n : Nat) (l scl : List Nat) (x : Nat) (hnl : n = l.length) (hx : x < 256) (w : World) (hB : Built w fb) (hl : Bs w (.slice (some ⟨b, o, none⟩) n c) l) (hs : Bs w (.slice (some ⟨sb, so, none⟩) n sc) scl) (hn : n ≤ 256) :
    Calls Tryd.prog 86 #[.agg #[.pointer (some ⟨fb, 0, none⟩), .slice (some ⟨b, o, none⟩) n c, .slice (some ⟨sb, so, none⟩) n sc], .int .u8 x] w fun e w' => ∃ ob, w.heap.size ≤ ob ∧ e = .returned (.slice (some ⟨ob, 0, none⟩) n n) ∧ Own w' ob (wts l scl x) ∧ Below w.heap.size w w' := by
  subst hnl
  exact weights_any fb b o c sb so sc l scl x hx w hB hl hs hn
end Go.Proofs.YtafkjfpmjhfofaaDoor
