/-
  weights: the weight of each place in the value at x; bytes.IndexByte over bytes that read as a list. · addScaled: a row of bytes plus a multiple of another one. · newSource and piece: the bytes of any piece from k pieces. · piece: the bytes of any piece from k pieces. · PieceSize and the reference's Length; which sizes are allowed. · split: the first k pieces of an object. · copy between two rows of pieces (two cells each), and the pieces' cells behind it. · fill: the tables are built in 255 rounds. · sync.Once of a Field: build makes the tables at its first call and does nothing later. · Encode: all pieces of an object; the errors. · A copy of bytes that may be written; pieces kept while a field is used.
-/
import Derived.Test.YtjgiiciniplbnaaGreatDoorKa1
import Derived.Deep.RegionWith
import Derived.Lib.BytesEntry
import Derived.Deep.RegionHeld3
import Derived.Deep.QuietTactic
import Derived.BigQuiet
import Derived.Deep.DeepMust
import Derived.Laws.CopyOwn
import Derived.Defers
import Derived.RegionTactic
import Derived.RegionCalls
namespace Go.Proofs.YtjgiiciniplbnaaGreatDoor
open Go.RowKit

/-- the product of x with the first k places -/
def pxTo (l : List Nat) (x : Nat) : Nat → Nat
  | 0 => 1
  | k + 1 => Gf.tm (pxTo l x k) (x ^^^ l.getD k 0)
def wt (l sc : List Nat) (x i : Nat) : Nat := Gf.tm (Gf.tm (pxTo l x l.length) (Gf.iv (x ^^^ l.getD i 0))) (sc.getD i 0)
/-- the weights -/
def wts (l sc : List Nat) (x : Nat) : List Nat :=
  if x ∈ l then (List.replicate l.length 0).set (l.idxOf x) 1 else (List.range l.length).map (wt l sc x)
def ints (l : List Nat) : List Int := l.map fun (n : Nat) => (n : Int)
theorem ints_getD (l : List Nat) (i : Nat) : (ints l).getD i 0 = ((l.getD i 0 : Nat) : Int) := by
  unfold ints
  rw [List.getD_eq_getElem?_getD, List.getD_eq_getElem?_getD, List.getElem?_map]
  cases l[i]? <;> rfl
theorem u8_inj : ∀ a : Nat, a < 256 → ∀ b : Nat, b < 256 → ((a : Int).toNat.toUInt8 == (b : Int).toNat.toUInt8) = decide (a = b) := by
  intro a ha b hb
  rw [Bool.eq_iff_iff]
  simp only [Int.toNat_natCast, beq_iff_eq, decide_eq_true_eq]
  constructor
  · intro h
    have := congrArg UInt8.toNat h
    simp at this
    omega
  · intro h; rw [h]
theorem index_ints (x : Nat) (hx : x < 256) : ∀ l : List Nat, (∀ n ∈ l, n < 256) → Lib.indexByte (Lib.bytesOf (ints l)) (x : Int).toNat.toUInt8 = if x ∈ l then ((l.idxOf x : Nat) : Int) else -1
  | [], _ => rfl
  | a :: l, h => by
    have ih := index_ints x hx l (fun n hn => h n (by simp [hn]))
    show (if (a : Int).toNat.toUInt8 == (x : Int).toNat.toUInt8 then (0 : Int) else if Lib.indexByte (Lib.bytesOf (ints l)) (x : Int).toNat.toUInt8 == -1 then -1 else Lib.indexByte (Lib.bytesOf (ints l)) (x : Int).toNat.toUInt8 + 1) = _
    rw [u8_inj a (h a (by simp)) x hx, ih]
    by_cases e : a = x
    · subst e; simp
    · have e' : ¬ x = a := fun h => e h.symm
      by_cases hm : x ∈ l
      · have hne : (((l.idxOf x : Nat) : Int) == -1) = false := by simp
        have he : (a == x) = false := by simp [e]
        simp [e, hm, List.idxOf_cons, hne, he]
      · simp [e, e', hm]

def ixOf (l : List Nat) (x : Nat) : Int := if x ∈ l then ((l.idxOf x : Nat) : Int) else -1
set_option maxRecDepth 100000 in
theorem indexByte_any (b o c : Nat) (l : List Nat) (n x : Nat) (p : Int) (hp : p = ixOf l x) (hx : x < 256) (w : World) (hl : Bs w (.slice (some ⟨b, o, none⟩) n c) l) :
    Calls Tryz.prog 178 #[.slice (some ⟨b, o, none⟩) n c, .int .u8 x] w fun e w' => e = .returned (.int .i64 p) ∧ w = w' := by
  have hnl := hl.len
  have hrun := Lib.run_indexByteSlice (P := Tryz.prog) w b o n c (ints l) (by simp [ints, hnl]) (fun i hi => by rw [ints_getD]; exact hl.cell i (by omega)) x
  have h2 := index_ints x hx l (by obtain ⟨_, _, _, h, _⟩ := hl; exact h)
  rw [h2] at hrun
  unfold ixOf at hp
  rw [← hp] at hrun
  have HRUN := hid hrun
  clear h2 hrun hp hnl
  go_enter Tryz.func178, Tryz.ntmps178
  go_wp2
  rw [run_callFunc_extern Tryz.func193 (by kernel_rfl) (by kernel_rfl) (by kernel_rfl) (e := Extern.BytealgIndexByte.indexByte) (by kernel_rfl), HRUN.out]
  simp only [Result.andThen]
  rw [Oper.upon_value]
  go_wp2
  go_ret
  exact ⟨rfl, rfl⟩

theorem pxTo_lt (l : List Nat) (x : Nat) : ∀ k, pxTo l x k < 256
  | 0 => by show 1 < 256; omega
  | k + 1 => Gf.tm_lt _ _ (pxTo_lt l x k)
def wtsTo (l sc : List Nat) (x k : Nat) : List Nat := (List.range l.length).map fun i => if i < k then wt l sc x i else 0
theorem wtsTo_zero (l sc : List Nat) (x : Nat) : wtsTo l sc x 0 = List.replicate l.length 0 := by
  apply List.ext_getElem?
  intro i
  unfold wtsTo
  by_cases hi : i < l.length
  · simp [hi]
  · rw [List.getElem?_eq_none (by simp; omega), List.getElem?_eq_none (by simp; omega)]
theorem wtsTo_all (l sc : List Nat) (x : Nat) : wtsTo l sc x l.length = (List.range l.length).map (wt l sc x) := by
  unfold wtsTo
  apply List.map_congr_left
  intro i hi
  rw [if_pos (List.mem_range.1 hi)]
theorem wtsTo_length (l sc : List Nat) (x k : Nat) : (wtsTo l sc x k).length = l.length := by simp [wtsTo]
theorem wtsTo_set (l sc : List Nat) (x k : Nat) (_hk : k < l.length) : (wtsTo l sc x k).set k (wt l sc x k) = wtsTo l sc x (k + 1) := by
  apply List.ext_getElem?
  intro i
  unfold wtsTo
  rw [List.getElem?_set]
  simp only [List.length_map, List.length_range, List.getElem?_map]
  by_cases h : k = i
  · subst h
    rw [if_pos rfl, if_pos (by omega), List.getElem?_range (by omega)]
    simp
  · rw [if_neg h]
    by_cases hi : i < l.length
    · rw [List.getElem?_range hi]
      simp only [Option.map_some]
      by_cases h2 : i < k
      · rw [if_pos h2, if_pos (by omega)]
      · rw [if_neg h2, if_neg (by omega)]
    · rw [List.getElem?_eq_none (by simp; omega)]; rfl
theorem wts_length (l sc : List Nat) (x : Nat) : (wts l sc x).length = l.length := by unfold wts; split <;> simp
theorem wts_lt (l sc : List Nat) (x : Nat) : ∀ n ∈ wts l sc x, n < 256 := by
  intro n hn
  unfold wts at hn
  split at hn
  · have := List.mem_or_eq_of_mem_set hn
    rcases this with h | h
    · have := List.eq_of_mem_replicate h; omega
    · omega
  · obtain ⟨i, _, rfl⟩ := List.mem_map.1 hn
    exact Gf.tm_lt _ _ (Gf.tm_lt _ _ (pxTo_lt _ _ _))

set_option maxRecDepth 100000 in
set_option maxHeartbeats 1000000 in
theorem weights_any (fb : Nat) (b o c sb so sc : Nat) (l scl : List Nat) (x : Nat) (hx : x < 256) (w : World) (hB : Built w fb) (hl : Bs w (.slice (some ⟨b, o, none⟩) l.length c) l) (hs : Bs w (.slice (some ⟨sb, so, none⟩) l.length sc) scl) (hn : l.length ≤ 256) :
    Calls Tryz.prog 144 #[.agg #[.pointer (some ⟨fb, 0, none⟩), .slice (some ⟨b, o, none⟩) l.length c, .slice (some ⟨sb, so, none⟩) l.length sc], .int .u8 x] w fun e w' => ∃ ob, w.heap.size ≤ ob ∧ e = .returned (.slice (some ⟨ob, 0, none⟩) l.length l.length) ∧ Own w' ob (wts l scl x) ∧ Below w.heap.size w w' := by
  obtain ⟨n, hnl⟩ : ∃ n, n = l.length := ⟨_, rfl⟩
  have HN := hid hnl
  rw [← hnl] at hl hs hn ⊢
  clear hnl
  have hmk := mk_u8 n (by omega)
  have HL := hid hl.lt
  have HSL := hid hs.lt
  by_cases hm : x ∈ l
  · obtain ⟨p, hp⟩ : ∃ p, p = l.idxOf x := ⟨_, rfl⟩
    have hpn : p < n := by rw [hp, HN.out]; exact List.idxOf_lt_length_of_mem hm
    have hwt : wts l scl x = (List.replicate n 0).set p 1 := by unfold wts; rw [if_pos hm, ← HN.out, hp]
    have hix : (p : Int) = ixOf l x := by unfold ixOf; rw [if_pos hm, hp]
    rw [hwt]
    have HIX := hid hix
    clear hix hwt hp hm hs HL HSL
    have hge : (0 : Int) ≤ (p : Int) := by omega
    have ho := own_zrow (w.alloc (Obj.cells #[Value.pointer (some ⟨fb, 0, none⟩), Value.slice (some ⟨b, o, none⟩) n c, Value.slice (some ⟨sb, so, none⟩) n sc] 195)) n
    rw [World.size_alloc] at ho
    have hc := ho.cell p (by simpa using hpn)
    have hf := ho.free p
    have hb : Below w.heap.size w ((w.alloc (Obj.cells #[Value.pointer (some ⟨fb, 0, none⟩), Value.slice (some ⟨b, o, none⟩) n c, Value.slice (some ⟨sb, so, none⟩) n sc] 195)).alloc (zrow n)) := ((Below.refl _ _).alloc (Nat.le_refl _) _).alloc (by simp) _
    go_enter Tryz.func144, Tryz.ntmps144
    go_wp2_with (go_at_call 178; refine (indexByte_any b o c l n x p HIX.out hx _ ((hl.alloc _).alloc _)).mono ?_; rintro e w' ⟨rfl, rfl⟩)
    go_ret
    exact ⟨w.heap.size + 1, by omega, rfl, ho.set p 1, hb.setCell (by simp) _⟩
  · have hwt : wts l scl x = wtsTo l scl x n := by unfold wts; rw [if_neg hm, HN.out, wtsTo_all]
    have hix : (-1 : Int) = ixOf l x := by unfold ixOf; rw [if_neg hm]
    have hne : ∀ i, i < n → x ≠ l.getD i 0 := fun i hi e => hm (by
      rw [e, List.getD_eq_getElem?_getD, List.getElem?_eq_getElem (by rw [← HN.out]; exact hi)]
      exact List.getElem_mem _)
    rw [hwt]
    have HIX := hid hix
    have HNE := hid hne
    clear hix hwt hm hne
    have ho := own_zrow (w.alloc (Obj.cells #[Value.pointer (some ⟨fb, 0, none⟩), Value.slice (some ⟨b, o, none⟩) n c, Value.slice (some ⟨sb, so, none⟩) n sc] 195)) n
    rw [World.size_alloc, HN.out, ← wtsTo_zero l scl x, ← HN.out] at ho
    have hb : Below w.heap.size w ((w.alloc (Obj.cells #[Value.pointer (some ⟨fb, 0, none⟩), Value.slice (some ⟨b, o, none⟩) n c, Value.slice (some ⟨sb, so, none⟩) n sc] 195)).alloc (zrow n)) := ((Below.refl _ _).alloc (Nat.le_refl _) _).alloc (by simp) _
    have hbox : ((w.alloc (Obj.cells #[Value.pointer (some ⟨fb, 0, none⟩), Value.slice (some ⟨b, o, none⟩) n c, Value.slice (some ⟨sb, so, none⟩) n sc] 195)).alloc (zrow n)).heap[w.heap.size]? = some (Obj.cells #[Value.pointer (some ⟨fb, 0, none⟩), Value.slice (some ⟨b, o, none⟩) n c, Value.slice (some ⟨sb, so, none⟩) n sc] 195) := heap_alloc (heap_new _ _) _
    have HBOX := hid hbox
    clear hbox
    go_enter Tryz.func144, Tryz.ntmps144
    go_wp2_with (go_at_call 178; refine (indexByte_any b o c l n x (-1) HIX.out hx _ ((hl.alloc _).alloc _)).mono ?_; rintro e w' ⟨rfl, rfl⟩)
    generalize hw1 : (w.alloc (Obj.cells #[Value.pointer (some ⟨fb, 0, none⟩), Value.slice (some ⟨b, o, none⟩) n c, Value.slice (some ⟨sb, so, none⟩) n sc] 195)).alloc (zrow n) = w1 at *
    clear hw1
    have hB1 := hB.below hb hB.lt
    have hl1 := hl.below hb
    have hs1 := hs.below hb
    go_loopw [8, 10, 32] (fun p _ j wr => ∃ m : Nat, m ≤ n ∧ j = .int .i64 m ∧ p = .int .u8 (pxTo l x m) ∧ ∃ q, Hid (wr = w1.drewN q)) (fun _ _ j _ => n - (intOf j).toNat)
    case atStart => exact ⟨0, by omega, rfl, rfl, 0, rfl⟩
    case round =>
      obtain ⟨m, hm, rfl, rfl, q, hw⟩ := hrel
      have hw' := hw.out
      subst hw'
      clear hw
      by_cases hlt : m < n
      · have cm := (hl1.drewN q).cell m (by rw [← HN.out]; exact hlt)
        have hml := HL.out m
        have hpl := pxTo_lt l x m
        have hst : pxTo l x (m + 1) = Gf.tm (pxTo l x m) (x ^^^ l.getD m 0) := rfl
        have HS := hid hst
        clear hst
        generalize l.getD m 0 = pm at *
        have hxi := u8_xor_nat x pm hx hml
        have hxl := Gf.xor_lt hx hml
        generalize x ^^^ pm = xx at *
        generalize pxTo l x m = pp at *
        go_wp2_with (go_at_call 176; refine (mul_any fb pp xx hpl hxl _ (hB1.drewN q)).mono ?_; rintro e w' ⟨rfl, r, rfl⟩)
        go_roundw
        case rel => exact ⟨m + 1, by omega, by go_num, by rw [HS.out], q + r, hid rfl⟩
        case measure => simp [intOf]; omega
      · obtain rfl : m = n := by omega
        have hx0 : (w1.drewN q).cell? ⟨w.heap.size, 0, none⟩ = some (Value.pointer (some ⟨fb, 0, none⟩)) := cell_of_heap HBOX.out 0
        have hx1 : (w1.drewN q).cell? ⟨w.heap.size, 1, none⟩ = some (Value.slice (some ⟨b, o, none⟩) m c) := cell_of_heap HBOX.out 1
        have hpx := pxTo_lt l x m
        have hpe : ∀ i, i < m → wt l scl x i = Gf.tm (Gf.tm (pxTo l x m) (Gf.iv (x ^^^ l.getD i 0))) (scl.getD i 0) := fun i _ => by unfold wt; rw [← HN.out]
        have HPE := hid hpe
        clear hpe
        generalize pxTo l x m = pp at *
        go_wp2
        clear hmk hx0 hx1
        go_loopw [11, 12, 46] (fun _ _ j wr => ∃ k : Nat, k ≤ m ∧ j = .int .i64 k ∧ Own wr (w.heap.size + 1) (wtsTo l scl x k) ∧ Below w.heap.size w wr ∧ Hid (wr.heap[w.heap.size]? = some (Obj.cells #[Value.pointer (some ⟨fb, 0, none⟩), Value.slice (some ⟨b, o, none⟩) m c, Value.slice (some ⟨sb, so, none⟩) m sc] 195))) (fun _ _ j _ => m - (intOf j).toNat)
        case atStart => exact ⟨0, by omega, rfl, ho.drewN q, bel_drewN hb q, hid HBOX.out⟩
        case round =>
          clear ho hb HBOX
          obtain ⟨k, hk, rfl, ho, hb, HBOX⟩ := hrel
          have hBr := hB.below hb hB.lt
          by_cases hlt2 : k < m
          · have ck := (hl.below hb).cell k (by rw [← HN.out]; exact hlt2)
            have cs := (hs.below hb).cell k (by rw [← hs.len]; exact hlt2)
            have hx2 : wr.cell? ⟨w.heap.size, 2, none⟩ = some (Value.slice (some ⟨sb, so, none⟩) m sc) := cell_of_heap HBOX.out 2
            have co := ho.cell k (by rw [wtsTo_length, ← HN.out]; exact hlt2)
            have fo := ho.free k
            have hkl := HL.out k
            have hks := HSL.out k
            have hwk := HPE.out k hlt2
            have hne := HNE.out k hlt2
            generalize l.getD k 0 = pk at *
            generalize scl.getD k 0 = sk at *
            have hxi := u8_xor_nat x pk hx hkl
            have hxl := Gf.xor_lt hx hkl
            have hx0 := xor_ne hne
            have hil := Gf.iv_lt (x ^^^ pk)
            have hml := Gf.tm_lt pp (Gf.iv (x ^^^ pk)) hpx
            have HWK := hid hwk
            clear hwk hne
            generalize x ^^^ pk = xx at *
            have HX0 := hid hx0
            clear hx0
            generalize hqq : Gf.tm pp (Gf.iv xx) = qq at *
            have HQQ := hid hqq
            clear hqq
            have hmul2 : ∀ w, Built w fb → Calls Tryz.prog 176 #[.pointer (some ⟨fb, 0, none⟩), .int .u8 pp, .int .u8 (Gf.iv xx)] w fun e w' => e = .returned (.int .u8 qq) ∧ ∃ n, w' = w.drewN n := fun w hw => by
              have := mul_any fb pp (Gf.iv xx) hpx hil w hw
              rwa [HQQ.out] at this
            have HM2 := hid hmul2
            clear hmul2
            go_wp2
            refine region_quiet_tail 18 (by kernel_rfl) (by kernel_rfl) ?_
            simp only [List.take_succ_cons, List.take_zero, List.drop_succ_cons, List.drop_zero]
            repeat (quiet_step ((first | (go_at_call 177; exact Calls.quiet_of (inverse_any fb xx hxl HX0.out _ (hBr.drewN _))) | (go_at_call_of 176 (Value.int .u8 (sk : Int)); exact Calls.quiet_of (mul_any fb qq sk hml hks _ (hBr.drewN _))) | (go_at_call 176; exact Calls.quiet_of (HM2.out _ (hBr.drewN _))))))
            refine wpQuiet_nil ?_
            intro nq
            go_wp2
            refine ⟨⟨k + 1, by omega, by go_num, ?_, ?_, ?_⟩, by simp [intOf]; omega⟩
            · have h5 := (ho.drewN nq).set k (Gf.tm qq sk)
              rw [← wtsTo_set l scl x k (by rw [← HN.out]; exact hlt2), HWK.out]
              exact h5
            · exact (bel_drewN hb _).setCell (by simp) _
            · exact (Below.heap_setCell _ _ _ _ (by simp)).trans HBOX.out
          · obtain rfl : k = m := by omega
            go_wp2
            go_ret
            exact ⟨w.heap.size + 1, by omega, rfl, ho, hb⟩
theorem weights_n (fb : Nat) (b o c sb so sc n : Nat) (l scl : List Nat) (x : Nat) (hnl : n = l.length) (hx : x < 256) (w : World) (hB : Built w fb) (hl : Bs w (.slice (some ⟨b, o, none⟩) n c) l) (hs : Bs w (.slice (some ⟨sb, so, none⟩) n sc) scl) (hn : n ≤ 256) :
    Calls Tryz.prog 144 #[.agg #[.pointer (some ⟨fb, 0, none⟩), .slice (some ⟨b, o, none⟩) n c, .slice (some ⟨sb, so, none⟩) n sc], .int .u8 x] w fun e w' => ∃ ob, w.heap.size ≤ ob ∧ e = .returned (.slice (some ⟨ob, 0, none⟩) n n) ∧ Own w' ob (wts l scl x) ∧ Below w.heap.size w w' := by
  subst hnl
  exact weights_any fb b o c sb so sc l scl x hx w hB hl hs hn
end Go.Proofs.YtjgiiciniplbnaaGreatDoor

namespace Go.Proofs.YtjgiiciniplbnaaGreatDoor
open Go.RowKit

/-- the first k bytes from so on have got their multiple -/
def axTo (L : List Nat) (so : Nat) (bl : List Nat) (f : Nat) : Nat → List Nat
  | 0 => L
  | k + 1 => (axTo L so bl f k).set (so + k) ((axTo L so bl f k).getD (so + k) 0 ^^^ Gf.tm f (bl.getD k 0))
theorem axTo_length (L : List Nat) (so : Nat) (bl : List Nat) (f : Nat) : ∀ k, (axTo L so bl f k).length = L.length
  | 0 => rfl
  | k + 1 => by simp [axTo, axTo_length L so bl f k]
theorem axTo_getD (L : List Nat) (so : Nat) (bl : List Nat) (f : Nat) : ∀ k, so + k ≤ L.length → ∀ i, (axTo L so bl f k).getD i 0 = if so ≤ i ∧ i < so + k then L.getD i 0 ^^^ Gf.tm f (bl.getD (i - so) 0) else L.getD i 0
  | 0, _, i => by rw [if_neg (by omega)]; rfl
  | k + 1, hk, i => by
    have ih := axTo_getD L so bl f k (by omega)
    have hlen := axTo_length L so bl f k
    unfold axTo
    rw [List.getD_eq_getElem?_getD, List.getElem?_set]
    by_cases h : so + k = i
    · rw [if_pos h, if_pos (by omega), if_pos (by omega), ← h, ih, if_neg (by omega), show so + k - so = k from by omega]
      rfl
    · rw [if_neg h, ← List.getD_eq_getElem?_getD, ih]
      by_cases h2 : so ≤ i ∧ i < so + k
      · rw [if_pos h2, if_pos (by omega)]
      · rw [if_neg h2, if_neg (by omega)]

set_option maxRecDepth 100000 in
set_option maxHeartbeats 1000000 in
theorem addScaled_any (fb sb so n sc : Nat) (L : List Nat) (ba : Option Addr) (bb bo bn bc : Nat) (bl : List Nat) (f : Nat) (w : World) (hB : Built w fb) (hL : Own w sb L) (hfs : fb ≠ sb) (hso : so + n ≤ L.length) (hba : 0 < n → ba = some ⟨bb, bo, none⟩) (hbn : n ≤ bn) (hbl : bn ≤ 4611686018427387904) (hn : n ≤ 4611686018427387904) (hf : f < 256) (hbl2 : ∀ i, bl.getD i 0 < 256) (hL2 : ∀ i, L.getD i 0 < 256)
    (hrd : ∀ k, k < n → ∀ w', Own w' sb (axTo L so bl f k) → (∀ j, j < w.heap.size → j ≠ sb → w'.heap[j]? = w.heap[j]?) → w'.cell? ⟨bb, bo + k, none⟩ = some (.int .u8 (bl.getD k 0))) :
    Calls Tryz.prog 145 #[.pointer (some ⟨fb, 0, none⟩), .slice (some ⟨sb, so, none⟩) n sc, .slice ba bn bc, .int .u8 f] w fun e w' => e = .returned (.tuple #[]) ∧ Own w' sb (axTo L so bl f n) ∧ Kept sb w w' := by
  have HR := hid hrd
  have HA := hid hba
  have HL2 := hid hL2
  have HB2 := hid hbl2
  clear hrd hba hL2 hbl2
  go_enter Tryz.func145, Tryz.ntmps145
  go_wp2
  go_loopw [11] (fun i wr => ∃ k : Nat, k ≤ n ∧ i = .int .i64 k ∧ Own wr sb (axTo L so bl f k) ∧ Kept sb w wr) (fun i _ => n - (intOf i).toNat)
  case atStart => exact ⟨0, by omega, rfl, hL, Kept.refl _ _⟩
  case round =>
    obtain ⟨k, hk, rfl, hown, hkept⟩ := hrel
    have hBr : Built wr fb := (hkept.block fb hB.lt hfs).trans hB
    by_cases hlt : k < n
    · have ca := HA.out (by omega)
      subst ca
      have cb := HR.out k hlt wr hown hkept.block
      have cs := hown.cell (so + k) (by rw [axTo_length]; omega)
      have fs := hown.free (so + k)
      have lb := HB2.out k
      have ls : (axTo L so bl f k).getD (so + k) 0 < 256 := by
        rw [axTo_getD _ _ _ _ _ (by omega)]
        split
        · exact Gf.xor_lt (HL2.out _) (Gf.tm_lt _ _ hf)
        · exact HL2.out _
      have hst : axTo L so bl f (k + 1) = (axTo L so bl f k).set (so + k) ((axTo L so bl f k).getD (so + k) 0 ^^^ Gf.tm f (bl.getD k 0)) := rfl
      have HS := hid hst
      clear hst
      generalize hz : (axTo L so bl f k).getD (so + k) 0 = z at *
      have HZ := hid hz
      clear hz
      have hx := hid (u8_xor_nat z (Gf.tm f (bl.getD k 0)) ls (Gf.tm_lt _ _ hf))
      generalize bl.getD k 0 = y at *
      have hmul := fun w hB => mul_any fb f y hf lb w hB
      go_wp2
      go_region_with (go_at_call 176; refine (mul_any fb f y hf lb _ (by first | exact hBr | exact hBr.drewN _)).mono ?_; rintro e w' ⟨rfl, r, rfl⟩)
      all_goals
        go_wp2
        go_roundw
        case rel =>
          refine ⟨k + 1, by omega, by go_num, ?_, ?_⟩
          · rw [HS.out, hx.out]
            refine Own.set ?_ _ _
            exact hown
          · refine Kept.setCell (p := ⟨sb, so + k, none⟩) ?_ rfl _
            exact ⟨hkept.os, hkept.tape, hkept.output, hkept.size, hkept.block⟩
        case measure => simp [intOf]; omega
    · obtain rfl : k = n := by omega
      go_wp2
      go_end0
      exact ⟨rfl, hown, hkept⟩
theorem addScaled_bs (fb sb so n sc : Nat) (L : List Nat) (ba : Option Addr) (bc : Nat) (bl : List Nat) (f : Nat) (w : World) (hB : Built w fb) (hL : Own w sb L) (hfs : fb ≠ sb) (hso : so + n ≤ L.length) (hb : Bs w (.slice ba n bc) bl) (ho : 0 < n → Off sb (.slice ba n bc)) (hn : n ≤ 4611686018427387904) (hf : f < 256) (hL2 : ∀ i, L.getD i 0 < 256) :
    Calls Tryz.prog 145 #[.pointer (some ⟨fb, 0, none⟩), .slice (some ⟨sb, so, none⟩) n sc, .slice ba n bc, .int .u8 f] w fun e w' => e = .returned (.tuple #[]) ∧ Own w' sb (axTo L so bl f n) ∧ Kept sb w w' := by
  have hl := hb.len
  rcases hb.addr with ⟨h0, _⟩ | ⟨h0, bb, bo, c, hv⟩
  · have hn0 : n = 0 := by rw [hl, h0]; rfl
    exact addScaled_any fb sb so n sc L ba 0 0 n bc bl f w hB hL hfs hso (fun h => by omega) (Nat.le_refl _) hn hn hf hb.lt hL2 (fun k hk => by omega)
  · simp only [Value.slice.injEq] at hv
    obtain ⟨rfl, _, _⟩ := hv
    refine addScaled_any fb sb so n sc L _ bb bo n bc bl f w hB hL hfs hso (fun _ => rfl) (Nat.le_refl _) hn hn hf hb.lt hL2 (fun k hk w' _ hw' => ?_)
    have hc := hb.cell k (by omega)
    have hbs : bb ≠ sb := ho (by omega)
    have hlt := World.block_lt_of_cell? _ _ hc
    rw [World.cell?_of_block (w := w) (hw' bb hlt hbs)]
    exact hc
end Go.Proofs.YtjgiiciniplbnaaGreatDoor

namespace Go.Proofs.YtjgiiciniplbnaaGreatDoor
open Go.RowKit

/-- a slice value: where it begins, its length, its capacity -/
abbrev Sl := Option Addr × Nat × Nat
/-- the slice value v reads as pieces with these numbers and these data slices -/
def Ps (w : World) (v : Value) (ps : List (Int × Sl)) : Prop :=
  ∃ a c, v = .slice a ps.length c ∧ (ps ≠ [] → ∃ b o, a = some ⟨b, o, none⟩ ∧ ∀ i, (h : i < ps.length) → w.cell? ⟨b, o + i * 2, none⟩ = some (.int .i64 ps[i].1) ∧ w.cell? ⟨b, o + i * 2 + 1, none⟩ = some (.slice ps[i].2.1 ps[i].2.2.1 ps[i].2.2.2))
theorem Ps.below {w w' : World} {v : Value} {ps : List (Int × Sl)} (h : Ps w v ps) (k : Below w.heap.size w w') : Ps w' v ps := by
  obtain ⟨a, c, h1, h3⟩ := h
  refine ⟨a, c, h1, fun hl => ?_⟩
  obtain ⟨b, o, ha, hc⟩ := h3 hl
  refine ⟨b, o, ha, fun i hi => ?_⟩
  have := hc i hi
  rw [k.cell (World.block_lt_of_cell? _ _ this.1), k.cell (World.block_lt_of_cell? _ _ this.2)]; exact this

set_option maxRecDepth 100000 in
set_option maxHeartbeats 1000000 in
/-- newSource of pieces with different numbers below 256 -/
theorem newSource_any (fb b o c : Nat) (ps : List (Int × Sl)) (l : List Nat) (w : World) (hB : Built w fb) (hp : Ps w (.slice (some ⟨b, o, none⟩) ps.length c) ps) (h0 : ps.length ≠ 0) (hn : ps.length ≤ 256)
    (hl : l.length = ps.length) (hpl : ∀ i, (h : i < ps.length) → ps[i].1 = ((l.getD i 0 : Nat) : Int)) (hlt : ∀ n ∈ l, n < 256) (hd : l.Nodup) :
    Calls Tryz.prog 116 #[.pointer (some ⟨fb, 0, none⟩), .slice (some ⟨b, o, none⟩) ps.length c] w fun e w' => ∃ pb sb, w.heap.size ≤ pb ∧ w.heap.size ≤ sb ∧ e = .returned (.agg #[.slice (some ⟨b, o, none⟩) ps.length c, .pointer (some ⟨fb, 0, none⟩), .slice (some ⟨pb, 0, none⟩) ps.length ps.length, .slice (some ⟨sb, 0, none⟩) ps.length ps.length]) ∧ Own w' pb l ∧ Own w' sb (scales l) ∧ Below w.heap.size w w' := by
  obtain ⟨n, hnl⟩ : ∃ n, n = ps.length := ⟨_, rfl⟩
  have HN := hid hnl
  rw [← hnl] at hp h0 hn ⊢
  clear hnl
  have hmk := mk_u8 n (by omega)
  have HPL := hid hpl
  have HLT := hid hlt
  have HD := hid hd
  have HP := hid hp
  have HLL := hid hl
  clear hpl hlt hd hp hl
  have hb : Below w.heap.size w ((w.alloc (Obj.cells #[Value.slice none 0 0, Value.pointer none, Value.slice none 0 0, Value.slice none 0 0] 197)).alloc (zrow n)) := ((Below.refl _ _).alloc (Nat.le_refl _) _).alloc (by simp) _
  have ho := own_zrow (w.alloc (Obj.cells #[Value.slice none 0 0, Value.pointer none, Value.slice none 0 0, Value.slice none 0 0] 197)) n
  rw [World.size_alloc, ← upTo_zero n (fun i => l.getD i 0)] at ho
  have hres : ((w.alloc (Obj.cells #[Value.slice none 0 0, Value.pointer none, Value.slice none 0 0, Value.slice none 0 0] 197)).alloc (zrow n)).heap[w.heap.size]? = some (Obj.cells #[Value.slice none 0 0, Value.pointer none, Value.slice none 0 0, Value.slice none 0 0] 197) := heap_alloc (heap_new _ _) _
  have HRES := hid hres
  clear hres
  go_enter Tryz.func116, Tryz.ntmps116
  go_wp2
  clear hmk
  go_loopw [13] (fun i wr => ∃ k : Nat, k ≤ n ∧ i = .int .i64 k ∧ Own wr (w.heap.size + 1) (upTo n (fun i => l.getD i 0) k) ∧ Below w.heap.size w wr ∧ Hid (wr.heap[w.heap.size]? = some (Obj.cells #[Value.slice none 0 0, Value.pointer none, Value.slice none 0 0, Value.slice none 0 0] 197))) (fun i _ => n - (intOf i).toNat)
  case atStart => exact ⟨0, by omega, rfl, ho, hb, HRES⟩
  case round =>
    clear ho hb HRES
    obtain ⟨k, hk, rfl, ho, hb, HRES⟩ := hrel
    by_cases hlt : k < n
    · have hc := (Ps.below HP.out hb)
      obtain ⟨a', c', h1, h3⟩ := hc
      obtain ⟨b', o', ha, hc⟩ := h3 (by intro e; rw [e] at HN; have := HN.out; simp at this; omega)
      simp only [Value.slice.injEq] at h1
      obtain ⟨h4, h5, h6⟩ := h1
      rw [ha] at h4
      simp only [Option.some.injEq, Addr.mk.injEq, and_true] at h4
      obtain ⟨rfl, rfl⟩ := h4
      have hck := hc k (by rw [← HN.out]; exact hlt)
      have c1 := hck.1
      have c2 := hck.2
      rw [HPL.out k (by rw [← HN.out]; exact hlt)] at c1
      have hlk : l.getD k 0 < 256 := by
        rw [List.getD_eq_getElem?_getD, List.getElem?_eq_getElem (by rw [HLL.out, ← HN.out]; exact hlt)]
        exact HLT.out _ (List.getElem_mem _)
      have hst := upTo_set n (fun i => l.getD i 0) k
      have HST := hid hst
      clear hst h3 hc hck h5 h6 ha
      have co := ho.cell k (by rw [upTo_length]; exact hlt)
      have fo := ho.free k
      have hsz : w.heap.size + 1 < wr.heap.size := ho.lt
      generalize hpk : l.getD k 0 = pk at *
      have HPK := hid hpk
      clear hpk
      go_wp2
      go_roundw
      case rel =>
        refine ⟨k + 1, by omega, by go_num, ?_, ?_, ?_⟩
        · rw [← HST.out]
          exact ((ho.set k pk).alloc _)
        · exact (hb.setCell (by simp) _).alloc (by have := hb.size; simp; omega) _
        · exact heap_alloc ((Below.heap_setCell _ _ _ _ (by simp)).trans HRES.out) _
      case measure => simp [intOf]; omega
    · obtain rfl : k = n := by omega
      have hall : upTo k (fun i => l.getD i 0) k = l := by
        rw [upTo_all, HN.out, ← HLL.out, range_getD]
      rw [hall] at ho
      have hkl : k = l.length := by rw [HLL.out, HN.out]
      have HKL := hid hkl
      clear hall hkl
      have hBr := hB.below hb hB.lt
      have hbs := ho.bs HLT.out k
      rw [← HKL.out] at hbs
      have hsz : w.heap.size + 1 < wr.heap.size := ho.lt
      go_wp2_with fail
      refine (newLagrange_n fb (w.heap.size + 1) 0 k k l HKL.out _ hBr hbs hn HD.out).mono ?_
      rintro e w2 ⟨sb, hsb, rfl, hos, hb2⟩
      have hr2 := (hb2.block w.heap.size (by omega)).trans HRES.out
      have q0 := cell_of_heap hr2 0
      have q1 := cell_of_heap hr2 1
      have q2 := cell_of_heap hr2 2
      have q3 := cell_of_heap hr2 3
      have f0 := free_of_heap hr2 0
      have f1 := free_of_heap hr2 1
      have f2 := free_of_heap hr2 2
      have f3 := free_of_heap hr2 3
      clear hr2
      go_wp2
      refine bodyPost_ret (v := .agg #[.slice (some ⟨b, o, none⟩) k c, .pointer (some ⟨fb, 0, none⟩), .slice (some ⟨w.heap.size + 1, 0, none⟩) k k, .slice (some ⟨sb, 0, none⟩) k k]) (by simp [results, Tryz.results116, go_sem, q0, q1, q2, q3]) rfl ⟨w.heap.size + 1, sb, by omega, by omega, rfl, ?_, ?_, ?_⟩
      · exact (((((ho.below hb2 ho.lt).setCell (by simp) _).setCell (by simp) _).setCell (by simp) _).setCell (by simp) _)
      · exact (((hos.setCell (by simp; omega) _).setCell (by simp; omega) _).setCell (by simp; omega) _).setCell (by simp; omega) _
      · exact ((((hb.trans (hb2.mono (by omega))).setCell (by simp) _).setCell (by simp) _).setCell (by simp) _).setCell (by simp) _
theorem newSource_n (fb b o c n : Nat) (ps : List (Int × Sl)) (l : List Nat) (hnp : n = ps.length) (w : World) (hB : Built w fb) (hp : Ps w (.slice (some ⟨b, o, none⟩) n c) ps) (h0 : n ≠ 0) (hn : n ≤ 256)
    (hl : l.length = ps.length) (hpl : ∀ i, (h : i < ps.length) → ps[i].1 = ((l.getD i 0 : Nat) : Int)) (hlt : ∀ n ∈ l, n < 256) (hd : l.Nodup) :
    Calls Tryz.prog 116 #[.pointer (some ⟨fb, 0, none⟩), .slice (some ⟨b, o, none⟩) n c] w fun e w' => ∃ pb sb, w.heap.size ≤ pb ∧ w.heap.size ≤ sb ∧ e = .returned (.agg #[.slice (some ⟨b, o, none⟩) n c, .pointer (some ⟨fb, 0, none⟩), .slice (some ⟨pb, 0, none⟩) n n, .slice (some ⟨sb, 0, none⟩) n n]) ∧ Own w' pb l ∧ Own w' sb (scales l) ∧ Below w.heap.size w w' := by
  subst hnp
  exact newSource_any fb b o c ps l w hB hp h0 hn hl hpl hlt hd
end Go.Proofs.YtjgiiciniplbnaaGreatDoor

namespace Go.Proofs.YtjgiiciniplbnaaGreatDoor
open Go.RowKit

/-- the sum of the first k values of f -/
def sx (f : Nat → Nat) : Nat → Nat | 0 => 0 | k + 1 => sx f k ^^^ f k
/-- the sum of the first k rows times their weights -/
def mixL (D : List (List Nat)) (ws : List Nat) (L k : Nat) : List Nat := (List.range L).map fun c => sx (fun i => Gf.tm (ws.getD i 0) ((D.getD i []).getD c 0)) k
theorem sx_lt (f : Nat → Nat) (h : ∀ i, f i < 256) : ∀ k, sx f k < 256
  | 0 => by show 0 < 256; omega
  | k + 1 => Gf.xor_lt (sx_lt f h k) (h k)
theorem sx_congr {f g : Nat → Nat} : ∀ k, (∀ i, i < k → f i = g i) → sx f k = sx g k
  | 0, _ => rfl
  | k + 1, h => by show sx f k ^^^ f k = sx g k ^^^ g k; rw [sx_congr k (fun i hi => h i (by omega)), h k (by omega)]
theorem mixL_length (D : List (List Nat)) (ws : List Nat) (L k : Nat) : (mixL D ws L k).length = L := by simp [mixL]
theorem mixL_getD (D : List (List Nat)) (ws : List Nat) (L k c : Nat) (hc : c < L) : (mixL D ws L k).getD c 0 = sx (fun i => Gf.tm (ws.getD i 0) ((D.getD i []).getD c 0)) k := by
  unfold mixL
  rw [List.getD_eq_getElem?_getD, List.getElem?_map, List.getElem?_range hc]; rfl
theorem mixL_zero (D : List (List Nat)) (ws : List Nat) (L : Nat) : mixL D ws L 0 = List.replicate L 0 := by
  apply List.ext_getElem?
  intro i
  unfold mixL
  by_cases hi : i < L
  · simp [hi, sx]
  · rw [List.getElem?_eq_none (by simp; omega), List.getElem?_eq_none (by simp; omega)]
theorem ext_getD {a b : List Nat} (h : a.length = b.length) (he : ∀ i, i < a.length → a.getD i 0 = b.getD i 0) : a = b := by
  apply List.ext_getElem?
  intro i
  by_cases hi : i < a.length
  · have := he i hi
    rw [List.getD_eq_getElem?_getD, List.getD_eq_getElem?_getD] at this
    rw [List.getElem?_eq_getElem hi, List.getElem?_eq_getElem (by omega)] at this ⊢
    exact congrArg some this
  · rw [List.getElem?_eq_none (by omega), List.getElem?_eq_none (by omega)]
theorem mixL_step (D : List (List Nat)) (ws : List Nat) (L k : Nat) : axTo (mixL D ws L k) 0 (D.getD k []) (ws.getD k 0) L = mixL D ws L (k + 1) := by
  apply ext_getD
  · rw [axTo_length, mixL_length, mixL_length]
  · intro i hi
    rw [axTo_length, mixL_length] at hi
    rw [axTo_getD _ _ _ _ _ (by rw [mixL_length]; omega), if_pos (by omega), mixL_getD _ _ _ _ _ hi, mixL_getD _ _ _ _ _ hi]
    rfl
theorem mixL_skip (D : List (List Nat)) (ws : List Nat) (L k : Nat) (h : ws.getD k 0 = 0) : mixL D ws L (k + 1) = mixL D ws L k := by
  unfold mixL
  apply List.map_congr_left
  intro c _
  show sx _ k ^^^ Gf.tm (ws.getD k 0) _ = _
  rw [h, Gf.tm_zero_left, Nat.xor_zero]
theorem mixL_lt (D : List (List Nat)) (ws : List Nat) (L k : Nat) (hw : ∀ i, ws.getD i 0 < 256) : ∀ n ∈ mixL D ws L k, n < 256 := by
  intro n hn
  unfold mixL at hn
  obtain ⟨c, _, rfl⟩ := List.mem_map.1 hn
  exact sx_lt _ (fun i => Gf.tm_lt _ _ (hw i)) k
theorem getD_lt {l : List Nat} (h : ∀ n ∈ l, n < 256) (i : Nat) : l.getD i 0 < 256 := by
  rw [List.getD_eq_getElem?_getD]
  by_cases hi : i < l.length
  · rw [List.getElem?_eq_getElem hi]; exact h _ (List.getElem_mem _)
  · rw [List.getElem?_eq_none (by omega)]; show 0 < 256; omega
/-- the cells of one piece -/
theorem Ps.cells {w : World} {b o k c : Nat} {ps : List (Int × Sl)} (h : Ps w (.slice (some ⟨b, o, none⟩) k c) ps) (i : Nat) (hi : i < ps.length) : w.cell? ⟨b, o + i * 2, none⟩ = some (.int .i64 ps[i].1) ∧ w.cell? ⟨b, o + i * 2 + 1, none⟩ = some (.slice ps[i].2.1 ps[i].2.2.1 ps[i].2.2.2) := by
  obtain ⟨a', c', h1, h3⟩ := h
  obtain ⟨b', o', ha, hc⟩ := h3 (by intro e; rw [e] at hi; exact absurd hi (Nat.not_lt_zero _))
  simp only [Value.slice.injEq] at h1
  obtain ⟨h4, _, _⟩ := h1
  rw [ha] at h4
  simp only [Option.some.injEq, Addr.mk.injEq, and_true] at h4
  obtain ⟨rfl, rfl⟩ := h4
  exact hc i hi

set_option maxRecDepth 100000 in
set_option maxHeartbeats 1000000 in
theorem piece_any (fb b o c pb po pc sb so sc k L x : Nat) (ps : List (Int × Sl)) (l : List Nat) (D : List (List Nat)) (w : World) (hB : Built w fb) (hp : Ps w (.slice (some ⟨b, o, none⟩) k c) ps) (hk1 : k ≠ 0) (hk : k ≤ 256) (hkp : k = ps.length) (hkl : k = l.length)
    (hD : ∀ i, (h : i < ps.length) → Bs w (.slice ps[i].2.1 ps[i].2.2.1 ps[i].2.2.2) (D.getD i []) ∧ (D.getD i []).length = L)
    (hl : Bs w (.slice (some ⟨pb, po, none⟩) k pc) l) (hs : Bs w (.slice (some ⟨sb, so, none⟩) k sc) (scales l)) (hx : x < 256) (hL : L ≤ 1000000) :
    Calls Tryz.prog 117 #[.agg #[.slice (some ⟨b, o, none⟩) k c, .pointer (some ⟨fb, 0, none⟩), .slice (some ⟨pb, po, none⟩) k pc, .slice (some ⟨sb, so, none⟩) k sc], .int .i64 x] w fun e w' => ∃ ob, w.heap.size ≤ ob ∧ e = .returned (.slice (some ⟨ob, 0, none⟩) L L) ∧ Own w' ob (mixL D (wts l (scales l) x) L k) ∧ Below w.heap.size w w' := by
  obtain ⟨a00, c00, g0⟩ : ∃ a0 c0, w.cell? ⟨b, o + 1, none⟩ = some (.slice a0 L c0) := by
    have h1 := (hp.cells 0 (by omega)).2
    have h2 := (hD 0 (by omega)).1.len
    rw [(hD 0 (by omega)).2] at h2
    rw [h2, Nat.zero_mul, Nat.add_zero] at h1
    exact ⟨_, _, h1⟩
  have HD := hid hD
  have HP := hid hp
  have HKP := hid hkp
  have HKL := hid hkl
  clear hD hp hkp hkl
  have hmk := mk_u8 L (by omega)
  have hbb := World.block_lt_of_cell? _ _ g0
  have g1 : ∀ o', (w.alloc o').cell? ⟨b, o + 1, none⟩ = some (.slice a00 L c00) := fun o' => by rw [World.cell?_alloc_past _ _ _ hbb]; exact g0
  have hb0 : Below w.heap.size w ((w.alloc (Obj.cells #[Value.slice (some ⟨b, o, none⟩) k c, Value.pointer (some ⟨fb, 0, none⟩), Value.slice (some ⟨pb, po, none⟩) k pc, Value.slice (some ⟨sb, so, none⟩) k sc] 197)).alloc (zrow L)) := ((Below.refl _ _).alloc (Nat.le_refl _) _).alloc (by simp) _
  have ho0 := own_zrow (w.alloc (Obj.cells #[Value.slice (some ⟨b, o, none⟩) k c, Value.pointer (some ⟨fb, 0, none⟩), Value.slice (some ⟨pb, po, none⟩) k pc, Value.slice (some ⟨sb, so, none⟩) k sc] 197)) L
  rw [World.size_alloc] at ho0
  have hbox : ((w.alloc (Obj.cells #[Value.slice (some ⟨b, o, none⟩) k c, Value.pointer (some ⟨fb, 0, none⟩), Value.slice (some ⟨pb, po, none⟩) k pc, Value.slice (some ⟨sb, so, none⟩) k sc] 197)).alloc (zrow L)).heap[w.heap.size]? = some (Obj.cells #[Value.slice (some ⟨b, o, none⟩) k c, Value.pointer (some ⟨fb, 0, none⟩), Value.slice (some ⟨pb, po, none⟩) k pc, Value.slice (some ⟨sb, so, none⟩) k sc] 197) := heap_alloc (heap_new _ _) _
  have HBOX := hid hbox
  clear hbox g0
  have hl1 := hl.below hb0
  have hs1 := hs.below hb0
  have hB1 := hB.below hb0 hB.lt
  have HWL := hid (fun i => getD_lt (wts_lt l (scales l) x) i)
  have hwn : (wts l (scales l) x).length = k := by rw [wts_length]; exact HKL.out.symm
  have HWN := hid hwn
  have HWA := hid (wts_lt l (scales l) x)
  clear hwn
  go_enter Tryz.func117, Tryz.ntmps117
  go_wp2_with fail
  refine (weights_n fb pb po pc sb so sc k l (scales l) x HKL.out hx _ hB1 hl1 hs1 hk).mono ?_
  rintro e w2 ⟨ob, hob, rfl, how, hb2⟩
  generalize hws : wts l (scales l) x = ws at *
  have HWS := hid hws
  clear hws
  generalize hw1 : (w.alloc (Obj.cells #[Value.slice (some ⟨b, o, none⟩) k c, Value.pointer (some ⟨fb, 0, none⟩), Value.slice (some ⟨pb, po, none⟩) k pc, Value.slice (some ⟨sb, so, none⟩) k sc] 197)).alloc (zrow L) = w1 at *
  clear hw1 g1 hmk hl1 hs1
  have hsz1 : w.heap.size + 1 < w1.heap.size := ho0.lt
  have ho2 := ho0.below hb2 hsz1
  have hB2 := hB1.below hb2 hB1.lt
  have hb3 : Below w.heap.size w w2 := hb0.trans (hb2.mono (by omega))
  have hbox2 := (hb2.block w.heap.size (by omega)).trans HBOX.out
  have HBOX2 := hid hbox2
  have hobs := hob
  clear hbox2 HBOX ho0 hb0 hb2 hB1 hob
  rw [← mixL_zero D ws L] at ho2
  have hobl := how.lt
  go_wp2
  go_loopw [6, 7, 21] (fun _ _ j wr => ∃ i : Nat, i ≤ k ∧ j = .int .i64 i ∧ Own wr (w.heap.size + 1) (mixL D ws L i) ∧ Below w.heap.size w wr ∧ Built wr fb ∧ Own wr ob ws ∧ Hid (wr.heap[w.heap.size]? = some (Obj.cells #[Value.slice (some ⟨b, o, none⟩) k c, Value.pointer (some ⟨fb, 0, none⟩), Value.slice (some ⟨pb, po, none⟩) k pc, Value.slice (some ⟨sb, so, none⟩) k sc] 197))) (fun _ _ j _ => k - (intOf j).toNat)
  case atStart => exact ⟨0, by omega, rfl, ho2, hb3, hB2, how, HBOX2⟩
  case round =>
    clear ho2 hb3 hB2 how HBOX2 hobl
    obtain ⟨i, hi, rfl, ho2, hb3, hB2, how, HBOX2⟩ := hrel
    by_cases hlt : i < k
    · have cw := how.cell i (by rw [HWN.out]; exact hlt)
      have hwl := HWL.out i
      generalize hwi : ws.getD i 0 = wi at *
      by_cases hw0 : wi = 0
      · have hb1 : ((wi : Int) != 0) = false := by simp [hw0]
        have hst := mixL_skip D ws L i (by rw [hwi, hw0])
        have HST := hid hst
        clear hst hw0 hwi
        go_wp2
        refine ⟨⟨i + 1, by omega, by go_num, ?_, hb3, hB2, how, HBOX2⟩, by simp [intOf]; omega⟩
        rw [HST.out]; exact ho2
      · have hb1 : ((wi : Int) != 0) = true := by simp; omega
        have hst := mixL_step D ws L i
        rw [hwi] at hst
        have HST := hid hst
        clear hst hw0 hwi
        have hcp := ((Ps.below HP.out hb3).cells i (by rw [← HKP.out]; exact hlt)).2
        have hdi := HD.out i (by rw [← HKP.out]; exact hlt)
        have hbd := hdi.1.below hb3
        have hlen := hdi.2
        have HD1 := hid hdi.1
        have hbl := hdi.1.len
        generalize ps[i].2.1 = da at *
        generalize ps[i].2.2.1 = dn at *
        generalize ps[i].2.2.2 = dc at *
        rw [hlen] at hbl
        subst hbl
        clear hdi
        have e0 : wr.cell? ⟨w.heap.size, 0, none⟩ = some (Value.slice (some ⟨b, o, none⟩) k c) := cell_of_heap HBOX2.out 0
        have e1 : wr.cell? ⟨w.heap.size, 1, none⟩ = some (Value.pointer (some ⟨fb, 0, none⟩)) := cell_of_heap HBOX2.out 1
        have HCP := hid hcp
        go_wp2
        refine region_quiet_tail 11 (by kernel_rfl) (by kernel_rfl) ?_
        simp only [List.take_succ_cons, List.take_zero, List.drop_succ_cons, List.drop_zero]
        repeat (quiet_step (fail))
        refine wpQuiet_nil ?_
        intro nq
        have hoff : 0 < dn → Off (w.heap.size + 1) (.slice da dn dc) := fun h => (HD1.out).off_ge (by intro e; rw [e] at hlen; simp at hlen; omega) (by omega)
        have hfs : fb ≠ w.heap.size + 1 := by have := hB.lt; omega
        go_wp2_with fail
        refine (addScaled_bs fb (w.heap.size + 1) 0 dn dn (mixL D ws dn i) da dc (D.getD i []) wi _ (hB2.drewN nq) (ho2.drewN nq) hfs (by rw [mixL_length]; omega) (hbd.drewN nq) hoff (by omega) hwl (fun j => getD_lt (mixL_lt D ws dn i HWL.out) j)).mono ?_
        rintro e w3 ⟨rfl, ho3, hk3⟩
        rw [HST.out] at ho3
        have hk4 : Kept (w.heap.size + 1) wr w3 := ⟨hk3.os, hk3.tape, hk3.output, hk3.size, hk3.block⟩
        have hszr : w.heap.size + 1 < wr.heap.size := ho2.lt
        go_wp2
        refine ⟨⟨i + 1, by omega, by go_num, ho3, ?_, ?_, ?_, ?_⟩, by simp [intOf]; omega⟩
        · exact hb3.trans (hk4.below (by omega) (by omega))
        · exact (hk4.block fb hB2.lt hfs).trans hB2
        · exact (hk4.block ob how.lt (by omega)).trans how
        · exact (hk4.block w.heap.size (by omega) (by omega)).trans HBOX2.out
    · obtain rfl : i = k := by omega
      go_wp2
      go_ret
      exact ⟨w.heap.size + 1, by omega, rfl, by rw [HWS.out]; exact ho2, hb3⟩
end Go.Proofs.YtjgiiciniplbnaaGreatDoor

namespace Go.Proofs.YtjgiiciniplbnaaGreatDoor
open Go.RowKit

/-- the length of a piece -/
def plen (k n : Nat) : Nat := (n + k - 1) / k
theorem size_ok (k n : Nat) (h1 : 1 ≤ k) (h2 : k ≤ 255) (h3 : n ≤ 8192) (w : World) :
    Calls Tryz.prog 92 #[.int .i64 k, .int .i64 n] w fun e w' => e = .returned (.tuple #[.int .i64 (plen k n), .int .i64 0]) ∧ w = w' := by
  have b1 : decide ((k : Int) < 1) = false := by simp; omega
  have b2 : decide ((255 : Int) < (k : Int)) = false := by simp; omega
  have b3 : decide ((n : Int) < 0) = false := by simp
  have b4 : decide ((8192 : Int) < (n : Int)) = false := by simp; omega
  have hp : (((n : Int) + (k : Int) - 1) / (k : Int)) = (plen k n : Int) := by
    unfold plen
    rw [show ((n : Int) + (k : Int) - 1) = ((n + k - 1 : Nat) : Int) from by omega]
    rfl
  have HP := hid hp
  clear hp
  go_enter Tryz.func92, Tryz.ntmps92
  go_wp2
  go_ret2
  exact ⟨by rw [← HP.out]; rfl, rfl⟩
theorem size_bad (k n : Int) (h : ¬ (1 ≤ k ∧ k ≤ 255 ∧ 0 ≤ n ∧ n ≤ 8192)) (w : World) :
    Calls Tryz.prog 92 #[.int .i64 k, .int .i64 n] w fun e w' => e = .returned (.tuple #[.int .i64 0, .int .i64 2]) ∧ w = w' := by
  by_cases h1 : k < 1
  · go_enter Tryz.func92, Tryz.ntmps92
    go_wp2
    go_ret2
    exact ⟨rfl, rfl⟩
  · by_cases h2 : 255 < k
    · go_enter Tryz.func92, Tryz.ntmps92
      go_wp2
      go_ret2
      exact ⟨rfl, rfl⟩
    · by_cases h3 : n < 0
      · go_enter Tryz.func92, Tryz.ntmps92
        go_wp2
        go_ret2
        exact ⟨rfl, rfl⟩
      · have h4 : 8192 < n := by omega
        go_enter Tryz.func92, Tryz.ntmps92
        go_wp2
        go_ret2
        exact ⟨rfl, rfl⟩

theorem plen_ge (k n : Nat) (h1 : 1 ≤ k) : n ≤ k * plen k n := by
  unfold plen
  have := Nat.div_add_mod (n + k - 1) k
  have h2 := Nat.mod_lt (n + k - 1) (show 0 < k by omega)
  omega
theorem plen_lt (k n l : Nat) (h1 : 1 ≤ k) (h : l < plen k n) : k * l < n := by
  unfold plen at h
  have h2 : (l + 1) * k ≤ n + k - 1 := (Nat.le_div_iff_mul_le (by omega)).1 h
  have h3 : (l + 1) * k = k * l + k := by rw [Nat.succ_mul, Nat.mul_comm]
  omega
theorem plen_le (k n : Nat) (h1 : 1 ≤ k) : plen k n ≤ n := by
  unfold plen
  rw [Nat.div_le_iff_le_mul_add_pred (by omega)]
  have := Nat.le_mul_of_pos_left n (show 0 < k by omega)
  omega

/-- are the sizes of a code allowed? -/
def okCode (k t : Int) : Bool := decide (1 ≤ k) && decide (k ≤ t) && decide (t ≤ 255)
theorem okCode_yes {k t : Int} (h1 : 1 ≤ k) (h2 : k ≤ t) (h3 : t ≤ 255) : okCode k t = true := by simp [okCode, h1, h2, h3]
theorem okCode_no {k t : Int} (h : ¬ (1 ≤ k ∧ k ≤ t ∧ t ≤ 255)) : okCode k t = false := by
  cases e : okCode k t
  · rfl
  · simp [okCode] at e; omega
theorem okCode_iff {k t : Int} : okCode k t = true ↔ 1 ≤ k ∧ k ≤ t ∧ t ≤ 255 := by
  constructor
  · intro e; simp [okCode] at e; omega
  · rintro ⟨h1, h2, h3⟩; exact okCode_yes h1 h2 h3
theorem valid_yes (k t : Int) (h1 : 1 ≤ k) (h2 : k ≤ t) (h3 : t ≤ 255) (w : World) :
    Calls Tryz.prog 113 #[.int .i64 k, .int .i64 t] w fun e w' => e = .returned (.bool true) ∧ w = w' := by
  go_enter Tryz.func113, Tryz.ntmps113
  go_wp2
  go_ret
  exact ⟨rfl, rfl⟩
theorem valid_no (k t : Int) (h : ¬ (1 ≤ k ∧ k ≤ t ∧ t ≤ 255)) (w : World) :
    Calls Tryz.prog 113 #[.int .i64 k, .int .i64 t] w fun e w' => e = .returned (.bool false) ∧ w = w' := by
  by_cases h1 : 1 ≤ k
  · by_cases h2 : k ≤ t
    · have h3 : ¬ t ≤ 255 := by omega
      clear h
      go_enter Tryz.func113, Tryz.ntmps113
      go_wp2
      go_ret
      exact ⟨rfl, rfl⟩
    · clear h
      go_enter Tryz.func113, Tryz.ntmps113
      go_wp2
      go_ret
      exact ⟨rfl, rfl⟩
  · clear h
    go_enter Tryz.func113, Tryz.ntmps113
    go_wp2
    go_ret
    exact ⟨rfl, rfl⟩
end Go.Proofs.YtjgiiciniplbnaaGreatDoor

namespace Go.Proofs.YtjgiiciniplbnaaGreatDoor
open Go.RowKit

theorem info36 : (Tryz.prog.info? 68).map (fun i => (i.zero, i.size, i.bytes)) = some (some (.agg #[.int .i64 0, .slice none 0 0]), 2, 32) := by kernel_rfl
/-- the cells of pieces -/
def pcells (ps : List (Int × Sl)) : List Value := ps.flatMap fun p => [.int .i64 p.1, .slice p.2.1 p.2.2.1 p.2.2.2]
/-- block b is a row of pieces that may be written -/
def POwn (w : World) (b : Nat) (ps : List (Int × Sl)) : Prop := w.heap[b]? = some (.cells (pcells ps).toArray 68 (0, 0))
/-- a new row of n empty pieces -/
def prow (n : Nat) : Obj := .cells (pcells (List.replicate n (0, none, 0, 0))).toArray 68
theorem pcells_length : ∀ ps, (pcells ps).length = 2 * ps.length
  | [] => rfl
  | p :: ps => by
    show ([_, _] ++ pcells ps).length = _
    simp only [List.length_append, pcells_length ps, List.length_cons, List.length_nil]
    omega
theorem pcells_get0 : ∀ (ps : List (Int × Sl)) (i : Nat) (h : i < ps.length), (pcells ps)[i * 2]? = some (.int .i64 ps[i].1)
  | p :: ps, 0, _ => rfl
  | p :: ps, i + 1, h => by
    show ([_, _] ++ pcells ps)[(i + 1) * 2]? = _
    rw [List.getElem?_append_right (by simp; omega)]
    have := pcells_get0 ps i (by simpa using h)
    rw [show (i + 1) * 2 - [Value.int IntKind.i64 p.1, Value.slice p.2.1 p.2.2.1 p.2.2.2].length = i * 2 from by simp; omega]
    exact this
theorem pcells_get1 : ∀ (ps : List (Int × Sl)) (i : Nat) (h : i < ps.length), (pcells ps)[i * 2 + 1]? = some (.slice ps[i].2.1 ps[i].2.2.1 ps[i].2.2.2)
  | p :: ps, 0, _ => rfl
  | p :: ps, i + 1, h => by
    show ([_, _] ++ pcells ps)[(i + 1) * 2 + 1]? = _
    rw [List.getElem?_append_right (by simp; omega)]
    have := pcells_get1 ps i (by simpa using h)
    rw [show (i + 1) * 2 + 1 - [Value.int IntKind.i64 p.1, Value.slice p.2.1 p.2.2.1 p.2.2.2].length = i * 2 + 1 from by simp; omega]
    exact this
theorem pcells_set : ∀ (ps : List (Int × Sl)) (i : Nat) (p : Int × Sl), i < ps.length → ((pcells ps).set (i * 2) (.int .i64 p.1)).set (i * 2 + 1) (.slice p.2.1 p.2.2.1 p.2.2.2) = pcells (ps.set i p)
  | q :: ps, 0, p, _ => rfl
  | q :: ps, i + 1, p, h => by
    have ih := pcells_set ps i p (by simpa using h)
    show (([_, _] ++ pcells ps).set ((i + 1) * 2) _).set ((i + 1) * 2 + 1) _ = [_, _] ++ pcells (ps.set i p)
    rw [show (i + 1) * 2 = i * 2 + 1 + 1 from by omega]
    show _ :: _ :: (((pcells ps).set (i * 2) _).set (i * 2 + 1) _) = _
    rw [ih]; rfl
theorem POwn.ps {w : World} {b : Nat} {ps : List (Int × Sl)} (h : POwn w b ps) (n c : Nat) (hn : n = ps.length) : Ps w (.slice (some ⟨b, 0, none⟩) n c) ps := by
  subst hn
  refine ⟨_, c, rfl, fun _ => ⟨b, 0, rfl, fun i hi => ?_⟩⟩
  rw [Nat.zero_add, cell_of_heap h, cell_of_heap h]
  exact ⟨by simpa using pcells_get0 ps i hi, by simpa using pcells_get1 ps i hi⟩
theorem POwn.cell0 {w : World} {b : Nat} {ps : List (Int × Sl)} (h : POwn w b ps) (i : Nat) (hi : i < ps.length) : w.cell? ⟨b, i * 2, none⟩ = some (.int .i64 ps[i].1) := by
  rw [cell_of_heap h]; simpa using pcells_get0 ps i hi
theorem POwn.cell1 {w : World} {b : Nat} {ps : List (Int × Sl)} (h : POwn w b ps) (i : Nat) (hi : i < ps.length) : w.cell? ⟨b, i * 2 + 1, none⟩ = some (.slice ps[i].2.1 ps[i].2.2.1 ps[i].2.2.2) := by
  rw [cell_of_heap h]; simpa using pcells_get1 ps i hi
theorem POwn.free {w : World} {b : Nat} {ps : List (Int × Sl)} (h : POwn w b ps) (i : Nat) : w.frozen? ⟨b, i, none⟩ = false := free_of_heap h i
theorem POwn.set {w : World} {b : Nat} {ps : List (Int × Sl)} (h : POwn w b ps) (i : Nat) (hi : i < ps.length) (p : Int × Sl) : POwn ((w.setCell ⟨b, i * 2, none⟩ (.int .i64 p.1)).setCell ⟨b, i * 2 + 1, none⟩ (.slice p.2.1 p.2.2.1 p.2.2.2)) b (ps.set i p) := by
  have h1 := heap_set (heap_set h (i * 2) (.int .i64 p.1)) (i * 2 + 1) (.slice p.2.1 p.2.2.1 p.2.2.2)
  unfold POwn
  rw [h1, ← pcells_set ps i p hi]
  simp
theorem POwn.below {w w' : World} {b B : Nat} {l : List (Int × Sl)} (h : POwn w b l) (k : Below B w w') (hb : b < B) : POwn w' b l := (k.block b hb).trans h
theorem POwn.lt {w : World} {b : Nat} {l : List (Int × Sl)} (h : POwn w b l) : b < w.heap.size := lt_of_block h
theorem POwn.alloc {w : World} {b : Nat} {l : List (Int × Sl)} (h : POwn w b l) (o : Obj) : POwn (w.alloc o) b l := heap_alloc h o
theorem POwn.setCell {w : World} {b : Nat} {l : List (Int × Sl)} (h : POwn w b l) {p : Addr} (hp : p.block ≠ b) (u : Value) : POwn (w.setCell p u) b l := (Below.heap_setCell _ _ _ _ (fun e => hp e.symm)).trans h
theorem POwn.drewN {w : World} {b : Nat} {l : List (Int × Sl)} (h : POwn w b l) (n : Nat) : POwn (w.drewN n) b l := h
theorem made_p (n : Nat) : madeCells #[.int .i64 0, .slice none 0 0] (n * 2) = (pcells (List.replicate n (0, none, 0, 0))).toArray := by
  apply Array.ext
  · simp [madeCells, pcells_length]; omega
  · intro i h1 h2
    have hi : i < n * 2 := by simpa [madeCells] using h1
    apply Option.some.inj
    rw [← Array.getElem?_eq_getElem h2]
    have hmod : i % 2 = 0 ∨ i % 2 = 1 := by omega
    rcases hmod with h | h
    · have hd : i = (i / 2) * 2 := by omega
      have := pcells_get0 (List.replicate n (0, none, 0, 0)) (i / 2) (by simp; omega)
      rw [← hd] at this
      simp [madeCells, h, this]
    · have hd : i = (i / 2) * 2 + 1 := by omega
      have := pcells_get1 (List.replicate n (0, none, 0, 0)) (i / 2) (by simp; omega)
      rw [← hd] at this
      simp [madeCells, h, this]
theorem mk_p (n : Nat) (hn : n ≤ 4398046511104) (w : World) : (Instr.makeSlice 63 (.int .i64 n) (.int .i64 n)).run Tryz.prog w = .ok (.slice (some ⟨w.heap.size, 0, none⟩) n n) (w.alloc (prow n)) := by
  obtain ⟨i0, hi, hz0, hz1, hz2⟩ := info_parts info36
  have h := run_make (P := Tryz.prog) w 63 68 i0 (.agg #[.int .i64 0, .slice none 0 0]) Tryz.underlying63 hi hz0 .i64 .i64 n n (by omega) (by omega) (by rw [hz2]; omega) (by omega)
  rw [h, hz1]
  simp only [Int.toNat_natCast, Value.cells, made_p]
  rfl
/-- the first i of k pieces of L bytes have been made, each in a block of its own -/
def mkps (bf : Nat → Nat) (L k i : Nat) : List (Int × Sl) := (List.range k).map fun j => if j < i then ((j : Int), some ⟨bf j, 0, none⟩, L, L) else (0, none, 0, 0)
theorem mkps_length (bf : Nat → Nat) (L k i : Nat) : (mkps bf L k i).length = k := by simp [mkps]
theorem mkps_zero (bf : Nat → Nat) (L k : Nat) : mkps bf L k 0 = List.replicate k (0, none, 0, 0) := by
  apply List.ext_getElem?
  intro i
  unfold mkps
  by_cases hi : i < k
  · simp [hi]
  · rw [List.getElem?_eq_none (by simp; omega), List.getElem?_eq_none (by simp; omega)]
theorem mkps_get (bf : Nat → Nat) (L k i j : Nat) (h : j < (mkps bf L k i).length) (hj : j < i) : (mkps bf L k i)[j] = ((j : Int), some ⟨bf j, 0, none⟩, L, L) := by
  simp [mkps, hj]
theorem mkps_set (bf : Nat → Nat) (L k i nb : Nat) (hi : i < k) : (mkps bf L k i).set i ((i : Int), some ⟨nb, 0, none⟩, L, L) = mkps (fun j => if j = i then nb else bf j) L k (i + 1) := by
  apply List.ext_getElem?
  intro j
  unfold mkps
  rw [List.getElem?_set]
  simp only [List.length_map, List.length_range, List.getElem?_map]
  by_cases h : i = j
  · subst h
    rw [if_pos rfl, if_pos hi, List.getElem?_range hi]; simp
  · rw [if_neg h]
    by_cases hj : j < k
    · rw [List.getElem?_range hj]
      simp only [Option.map_some]
      by_cases h2 : j < i
      · rw [if_pos h2, if_pos (by omega), if_neg (by omega)]
      · rw [if_neg h2, if_neg (by omega)]
    · rw [List.getElem?_eq_none (by simp; omega)]; rfl
/-- the bytes of piece i of the extended data -/
def spl (d : List Nat) (L i : Nat) : List Nat := (List.range L).map fun c => d.getD (i * L + c) 0
theorem spl_length (d : List Nat) (L i : Nat) : (spl d L i).length = L := by simp [spl]
theorem spl_getD (d : List Nat) (L i c : Nat) (hc : c < L) : (spl d L i).getD c 0 = d.getD (i * L + c) 0 := by
  unfold spl
  rw [List.getD_eq_getElem?_getD, List.getElem?_map, List.getElem?_range hc]; rfl
theorem spl_splice (d : List Nat) (L i : Nat) : splice (u8s (List.replicate L 0)) 0 (u8s ((d.drop (min (i * L) d.length)).take L)) = u8s (spl d L i) := by
  apply List.ext_getElem?
  intro c
  have hlen : ((d.drop (min (i * L) d.length)).take L).length = min L (d.length - min (i * L) d.length) := by simp
  unfold splice
  simp only [List.take_zero, List.nil_append, Nat.zero_add]
  by_cases hc : c < ((d.drop (min (i * L) d.length)).take L).length
  · rw [List.getElem?_append_left (by simpa [u8s] using hc)]
    have h1 : i * L + c < d.length := by omega
    have h2 : min (i * L) d.length = i * L := by omega
    rw [h2]
    simp only [u8s, List.getElem?_map, spl]
    rw [List.getElem?_take_of_lt (by omega), List.getElem?_drop, List.getElem?_range (by omega)]
    simp [List.getElem?_eq_getElem h1]
  · rw [List.getElem?_append_right (by simp [u8s]; omega)]
    by_cases hL : c < L
    · simp only [u8s, List.getElem?_drop, List.length_map, List.getElem?_map, spl]
      rw [List.getElem?_replicate, if_pos (by omega), List.getElem?_range hL]
      simp only [Option.map_some]
      rw [List.getD_eq_getElem?_getD, List.getElem?_eq_none (by omega)]
      rfl
    · rw [List.getElem?_eq_none (by simp [u8s]; omega), List.getElem?_eq_none (by simp [u8s, spl]; omega)]
theorem pown_prow (w : World) (n : Nat) : POwn (w.alloc (prow n)) w.heap.size (List.replicate n (0, none, 0, 0)) := heap_new _ _

set_option maxRecDepth 100000 in
set_option maxHeartbeats 1000000 in
theorem split_any (k : Nat) (a : Option Addr) (n c : Nat) (d : List Nat) (w : World) (hd : Bs w (.slice a n c) d) (hnc : n ≤ c) (h1 : 1 ≤ k) (h2 : k ≤ 255) (h3 : n ≤ 8192) :
    Calls Tryz.prog 115 #[.int .i64 k, .slice a n c] w fun e w' => ∃ bf : Nat → Nat, e = .returned (.slice (some ⟨w.heap.size, 0, none⟩) k k) ∧ POwn w' w.heap.size (mkps bf (plen k n) k k) ∧ (∀ j, j < k → w.heap.size < bf j ∧ Own w' (bf j) (spl d (plen k n) j)) ∧ (∀ i j, i < j → j < k → bf i < bf j) ∧ Below w.heap.size w w' := by
  have hmk := mk_p k (by omega)
  have hpl := plen_le k n h1
  have ho := pown_prow w k
  rw [← mkps_zero (fun _ => 0) (plen k n) k] at ho
  have hb : Below w.heap.size w (w.alloc (prow k)) := (Below.refl _ _).alloc (Nat.le_refl _) _
  have HD0 := hid hd
  have hdl := hd.len
  have HDL := hid hdl
  clear hdl hd
  generalize hL : plen k n = L at *
  have HL := hid hL
  clear hL
  go_enter Tryz.func115, Tryz.ntmps115
  go_wp2_with (go_at_call 92; refine (size_ok k n h1 h2 h3 _).mono ?_; rw [HL.out]; rintro e w' ⟨rfl, rfl⟩)
  clear hmk
  go_loopw [1, 8, 19] (fun dv _ iv wr => ∃ (i : Nat) (bf : Nat → Nat) (a' : Option Addr) (c' : Nat), i ≤ k ∧ iv = .int .i64 i ∧ dv = .slice a' (n - min (i * L) n) c' ∧ n - min (i * L) n ≤ c' ∧ Hid (Bs w (.slice a' (n - min (i * L) n) c') (d.drop (min (i * L) n))) ∧ POwn wr w.heap.size (mkps bf L k i) ∧ Hid (∀ j, j < i → w.heap.size < bf j ∧ Own wr (bf j) (spl d L j)) ∧ Hid (∀ i' j, i' < j → j < i → bf i' < bf j) ∧ Below w.heap.size w wr) (fun _ _ iv _ => k - (intOf iv).toNat)
  case atStart => exact ⟨0, fun _ => 0, a, c, by omega, rfl, by simp, by simpa using hnc, (by rw [Nat.zero_mul, Nat.zero_min, Nat.sub_zero]; exact HD0), ho, fun j hj => absurd hj (Nat.not_lt_zero _), fun i' j _ hj => absurd hj (Nat.not_lt_zero _), hb⟩
  case round =>
    clear ho hb HD0
    obtain ⟨i, bf, a', c', hi, rfl, rfl, hnc', hbs, hpo, HO, HI, hb⟩ := hrel
    by_cases hlt : i < k
    · generalize hq : min (i * L) n = q at *
      have HQ := hid hq
      have hqn : q ≤ n := by omega
      clear hq
      have hmk := mk_u8 L (by omega)
      have c0 := hpo.cell0 i (by rw [mkps_length]; exact hlt)
      have c1 := hpo.cell1 i (by rw [mkps_length]; exact hlt)
      have f0 := hpo.free (i * 2)
      have f1 := hpo.free (i * 2 + 1)
      have hst := mkps_set bf L k i wr.heap.size hlt
      have HST := hid hst
      clear hst
      generalize hp0 : (mkps bf L k i)[i]'(by rw [mkps_length]; exact hlt) = p0 at *
      clear hp0
      have hwsz : w.heap.size < wr.heap.size := hpo.lt
      -- the world behind the store of the new piece
      have hpo1 := (hpo.set i (by rw [mkps_length]; exact hlt) ((i : Int), some ⟨wr.heap.size, 0, none⟩, L, L)).alloc (zrow L)
      rw [HST.out] at hpo1
      have hone : ∀ v ∈ u8s ((d.drop q).take L), v.oneCell' = true := by
        intro v hv
        unfold u8s at hv
        obtain ⟨x, _, rfl⟩ := List.mem_map.1 hv
        rfl
      have HONE := hid hone
      have hlen : (u8s ((d.drop q).take L)).length = Nat.min (n - q) L := by
        show _ = min (n - q) L
        simp [u8s, ← HDL.out]; omega
      have HLEN := hid hlen
      have hbl : (d.drop q).length = n - q := by rw [List.length_drop, ← HDL.out]
      have HBL := hid hbl
      clear hone hlen hbl
      generalize hcs : u8s ((d.drop q).take L) = cs at *
      have HCS := hid hcs
      clear hcs
      have hrow : (((wr.setCell ⟨w.heap.size, i * 2, none⟩ (.int .i64 i)).setCell ⟨w.heap.size, i * 2 + 1, none⟩ (.slice (some ⟨wr.heap.size, 0, none⟩) L L)).alloc (zrow L)).heap[wr.heap.size]? = some (Obj.cells (u8s (List.replicate L 0)).toArray 5) := by
        have := own_zrow ((wr.setCell ⟨w.heap.size, i * 2, none⟩ (.int .i64 i)).setCell ⟨w.heap.size, i * 2 + 1, none⟩ (.slice (some ⟨wr.heap.size, 0, none⟩) L L)) L
        rw [World.size_setCell, World.size_setCell] at this
        exact this
      have hbW : Below w.heap.size w (((wr.setCell ⟨w.heap.size, i * 2, none⟩ (.int .i64 i)).setCell ⟨w.heap.size, i * 2 + 1, none⟩ (.slice (some ⟨wr.heap.size, 0, none⟩) L L)).alloc (zrow L)) := ((hb.setCell (by simp) _).setCell (by simp) _).alloc (by simp; omega) _
      have HROW := hid hrow
      clear hrow
      go_wp2_with (refine wpList_copy_splice rfl (.tmp 34) (.tmp 35) 66 66 rfl 5 Tryz.underlying66 (by kernel_rfl) (some ⟨wr.heap.size, 0, none⟩) a' L L (n - q) c' rfl rfl wr.heap.size 0 (u8s (List.replicate L 0)) 5 ?hg cs HLEN.out ?hpos ?hfit HONE.out wr.heap.size _ (Below.refl _ _) (Nat.le_refl _) ?_)
      case hg => exact (Array.getElem?_eq_some_iff.1 HROW.out).2
      case hfit => rw [HLEN.out]; simp [u8s]; exact Nat.min_le_right _ _
      case hpos =>
        intro hpos
        rcases hbs.out.addr with ⟨he, _⟩ | ⟨_, b2, o2, c2, hv⟩
        · rw [← HCS.out, he] at hpos; simp [u8s] at hpos
        · simp only [Value.slice.injEq] at hv
          obtain ⟨rfl, _, _⟩ := hv
          refine ⟨_, rfl, fun j v hj => ?_⟩
          have hjl : j < cs.length := (List.getElem?_eq_some_iff.1 hj).1
          have hjm : j < min (n - q) L := by have := HLEN.out; rw [this] at hjl; exact hjl
          have hc := hbs.out.cell j (by rw [HBL.out]; omega)
          have e : (⟨b2, o2, none⟩ : Addr).add j = ⟨b2, o2 + j, none⟩ := by unfold Addr.add; split <;> simp_all
          rw [e, hbW.cell (World.block_lt_of_cell? _ _ hc), hc, ← hj, ← HCS.out]
          unfold u8s
          rw [List.getElem?_map, List.getElem?_take_of_lt (by omega), List.getElem?_eq_getElem (by rw [HBL.out]; omega), List.getD_eq_getElem?_getD, List.getElem?_eq_getElem (by rw [HBL.out]; omega)]
          rfl
      intro w2 hg2 hb2
      have hm1 : cs.length ≤ n - q := by rw [HLEN.out]; exact Nat.min_le_left _ _
      have hqs : min ((i + 1) * L) n = q + cs.length := by
        have h5 : cs.length = min (n - q) L := HLEN.out
        have h6 := HQ.out
        rw [h5, Nat.succ_mul]
        generalize i * L = z at *
        omega
      have HQS := hid hqs
      clear hqs
      go_wp2
      refine ⟨⟨i + 1, fun j => if j = i then wr.heap.size else bf j, _, c' - cs.length, by omega, by go_num, by rw [HQS.out, Nat.sub_add_eq], ?_, ?_, ?_, ?_, ?_, ?_⟩, by simp [intOf]; omega⟩
      · rw [HQS.out]; omega
      · rw [HQS.out, Nat.sub_add_eq, ← List.drop_drop]
        exact hbs.out.drop cs.length hm1 hnc'
      · exact (hb2.block w.heap.size (by omega)).trans hpo1
      · intro j hj
        show w.heap.size < (if j = i then wr.heap.size else bf j) ∧ Own w2 (if j = i then wr.heap.size else bf j) (spl d L j)
        by_cases hji : j = i
        · rw [if_pos hji]
          refine ⟨by omega, ?_⟩
          have h7 := hg2.out
          rw [← HCS.out, ← HQ.out, HDL.out, spl_splice] at h7
          rw [hji]
          exact h7
        · rw [if_neg hji]
          obtain ⟨h8, h9⟩ := HO.out j (by omega)
          refine ⟨h8, ?_⟩
          have h10 := h9.lt
          exact (((h9.setCell (by simp; omega) _).setCell (by simp; omega) _).alloc _).below hb2 h10
      · intro i' j hij hj
        show (if i' = i then wr.heap.size else bf i') < (if j = i then wr.heap.size else bf j)
        by_cases hji : j = i
        · rw [if_pos hji, if_neg (by omega)]
          exact ((HO.out i' (by omega)).2).lt
        · rw [if_neg hji, if_neg (by omega)]
          exact HI.out i' j hij (by omega)
      · exact hbW.trans (hb2.mono (by omega))
    · obtain rfl : i = k := by omega
      go_wp2
      go_ret
      exact ⟨bf, rfl, hpo, HO.out, HI.out, hb⟩
end Go.Proofs.YtjgiiciniplbnaaGreatDoor

namespace Go.Proofs.YtjgiiciniplbnaaGreatDoor
open Go Go.RowKit

theorem wpList_copy_pairs {P : Program} {w : World} {ops : Array Oper} {rest : List Oper} {o : Oper} {a : Act} {Q : Exit → Act → World → Prop} (hgd : o.guard = none) (d s : Operand) (dT sT : TypeId)
    (ho : o.op = .call { callee := .builtin .copy, args := #[d, s], argTypes := #[dT, sT] }) (elem : TypeId) (hu : P.underlying dT = some (.slice elem)) (hsz : (P.info? elem).map (·.size) = some 2)
    (g dLen dCap : Nat) (ad : Addr) (sLen sCap : Nat) (hd : a.eval d = .slice (some ⟨g, 0, none⟩) dLen dCap) (hs : a.eval s = .slice (some ad) sLen sCap)
    (cur : List Value) (t : TypeId) (hg : w.heap[g]? = some (.cells cur.toArray t (0, 0))) (cs : List Value) (n : Nat) (hmin : Nat.min sLen dLen = n) (hn : cs.length = n * 2)
    (hsrc : ∀ j v, cs[j]? = some v → w.cell? (ad.add j) = some v) (hfit : cs.length ≤ cur.length) (h1 : ∀ v ∈ cs, v.oneCell' = true)
    (h : ∀ w', Hid (w'.heap[g]? = some (.cells (cs ++ cur.drop cs.length).toArray t (0, 0))) → Kept g w w' → wpList P ops Q rest (a.put o.dst (goInt n)) w') :
    wpList P ops Q (o :: rest) a w := by
  have hl := run_loadCells_list (P := P) w ad cs hsrc
  have hst := run_storeCells_at P g 0 t cs 0 cur.toArray w hg (by simpa using hfit) h1
  have hi : ∃ i, P.info? elem = some i ∧ i.size = 2 := by
    cases hq : P.info? elem with
    | none => simp [hq] at hsz
    | some i => exact ⟨i, rfl, by simpa [hq] using hsz⟩
  obtain ⟨i, hq, hi⟩ := hi
  rw [hn] at hl
  have hrun : (Builtin.copy_ #[dT, sT] o.type #[.slice (some ⟨g, 0, none⟩) dLen dCap, .slice (some ad) sLen sCap]).run P w = .ok (goInt n) (w.setRow g (cs ++ cur.drop cs.length).toArray) := by
    simp only [Nat.add_zero, Nat.zero_add] at hst
    simp [Builtin.copy_, run_underlying hu, Builtin.lenOf, Builtin.firstCells, sizeOf, typeInfo, hq, hi, hmin, hl, hst]
  refine wpList_plain hgd fun K hK => ?_
  unfold Oper.wp
  simp [execOp, ho, resolve, invoke, builtin, hd, hs, hrun, Result.andThen]
  refine hK _ _ (h _ (setRow_heap w g _ _ t _ hg) ⟨rfl, rfl, rfl, by simp [World.setRow], fun k _ hk => setRow_other w g k _ hk⟩)

theorem pcells_append (a b : List (Int × Sl)) : pcells (a ++ b) = pcells a ++ pcells b := by simp [pcells]
theorem mkps_split (bf : Nat → Nat) (L k t : Nat) (h : k ≤ t) : mkps bf L t k = mkps bf L k k ++ List.replicate (t - k) (0, none, 0, 0) := by
  apply List.ext_getElem?
  intro j
  unfold mkps
  by_cases hj : j < k
  · rw [List.getElem?_append_left (by simpa using hj)]
    simp [hj, show j < t by omega]
  · rw [List.getElem?_append_right (by simp; omega)]
    by_cases ht : j < t
    · simp [ht, hj, show j - k < t - k by omega]
    · rw [List.getElem?_eq_none (by simp; omega), List.getElem?_eq_none (by simp; omega)]
theorem pcells_copied (bf : Nat → Nat) (L k t : Nat) (h : k ≤ t) : pcells (mkps bf L k k) ++ (pcells (List.replicate t (0, none, 0, 0))).drop (pcells (mkps bf L k k)).length = pcells (mkps bf L t k) := by
  rw [mkps_split bf L k t h, pcells_append]
  congr 1
  rw [pcells_length, mkps_length]
  have e : List.replicate t ((0 : Int), ((none : Option Addr), 0, 0)) = List.replicate k ((0 : Int), ((none : Option Addr), 0, 0)) ++ List.replicate (t - k) ((0 : Int), ((none : Option Addr), 0, 0)) := by
    rw [List.replicate_append_replicate]; congr 1; omega
  rw [e, pcells_append]
  have hl : (pcells (List.replicate k ((0 : Int), ((none : Option Addr), 0, 0)))).length = 2 * k := by rw [pcells_length]; simp
  rw [← hl, List.drop_left]
theorem pcells_one : ∀ (ps : List (Int × Sl)) (v : Value), v ∈ pcells ps → v.oneCell' = true := by
  intro ps v hv
  unfold pcells at hv
  obtain ⟨p, _, h⟩ := List.mem_flatMap.1 hv
  simp only [List.mem_cons, List.not_mem_nil, or_false] at h
  rcases h with rfl | rfl <;> rfl
/-- the bytes of all pieces -/
def encP (d : List Nat) (k L i : Nat) : List Nat := if i < k then spl d L i else mixL ((List.range k).map (spl d L)) (wts (List.range k) (scales (List.range k)) i) L k
theorem range_map_getD (f : Nat → List Nat) (k i : Nat) (h : i < k) : ((List.range k).map f).getD i [] = f i := by
  rw [List.getD_eq_getElem?_getD, List.getElem?_map, List.getElem?_range h]; rfl
end Go.Proofs.YtjgiiciniplbnaaGreatDoor

namespace Go.Proofs.YtjgiiciniplbnaaGreatDoor
open Go.RowKit

/-- block b is a Field whose tables have been built up to k, the lock taken -/
def Filling (w : World) (b k : Nat) : Prop := w.heap[b]? = some (.cells (fcells 0 1 (tabTo k)) 156 (0, 0))
theorem Filling.cell {w : World} {b k : Nat} (h : Filling w b k) (i : Nat) (hi : i < 766) : ∃ v, w.cell? ⟨b, 3 + i, none⟩ = some v :=
  ⟨_, (cell_of_heap h (3 + i)).trans (fcells_get _ _ _ _ (by rw [tabTo_length]; exact hi))⟩
theorem Filling.free {w : World} {b k : Nat} (h : Filling w b k) (i : Nat) : w.frozen? ⟨b, i, none⟩ = false := free_of_heap h i
theorem Filling.step {w : World} {b k : Nat} (h : Filling w b k) : Filling (((w.setCell ⟨b, 3 + k, none⟩ (.int .u8 (Gf.E k))).setCell ⟨b, 3 + (k + 255), none⟩ (.int .u8 (Gf.E k))).setCell ⟨b, 513 + Gf.E k, none⟩ (.int .u8 k)) b (k + 1) := by
  have h1 := heap_set h (3 + k) (.int .u8 (Gf.E k))
  rw [fcells_set] at h1
  have h2 := heap_set h1 (3 + (k + 255)) (.int .u8 (Gf.E k))
  rw [fcells_set] at h2
  have h3 := heap_set h2 (3 + (510 + Gf.E k)) (.int .u8 k)
  rw [fcells_set] at h3
  rw [show 513 + Gf.E k = 3 + (510 + Gf.E k) from by omega]
  exact h3

set_option maxRecDepth 100000 in
theorem fill_any (b : Nat) (w : World) (h : Filling w b 0) :
    Calls Tryz.prog 142 #[.pointer (some ⟨b, 0, none⟩)] w fun e w' => e = .returned (.tuple #[]) ∧ Filling w' b 255 ∧ Kept b w w' := by
  go_enter Tryz.func142, Tryz.ntmps142
  go_wp2
  go_loopw [2, 4] (fun a i wr => ∃ k : Nat, k ≤ 255 ∧ i = .int .i64 k ∧ a = .int .u8 (Gf.E k) ∧ Filling wr b k ∧ Kept b w wr) (fun _ i _ => 255 - (intOf i).toNat)
  case atStart => exact ⟨0, by omega, rfl, rfl, h, Kept.refl _ _⟩
  case round =>
    obtain ⟨k, hk, rfl, rfl, hb, hK⟩ := hrel
    by_cases hlt : k < 255
    · have hE := Gf.E_lt k
      obtain ⟨v1, c1⟩ := hb.cell k (by omega)
      obtain ⟨v2, c2⟩ := hb.cell (k + 255) (by omega)
      obtain ⟨v3, c3⟩ := hb.cell (510 + Gf.E k) (by omega)
      rw [show 3 + (510 + Gf.E k) = 513 + Gf.E k from by omega] at c3
      have f1 := hb.free (3 + k)
      have f2 := hb.free (3 + (k + 255))
      have f3 := hb.free (513 + Gf.E k)
      clear h
      go_wp2_with (go_at_call 175; refine (double_any _ hE _).mono ?_; rintro e w' ⟨rfl, rfl⟩)
      go_roundw
      case rel => exact ⟨k + 1, by omega, by go_num, rfl, hb.step, ((hK.setCell rfl _).setCell rfl _).setCell rfl _⟩
      case measure => simp [intOf]; omega
    · obtain rfl : k = 255 := by omega
      have HK := hid hK
      go_wp2
      go_end0
      exact ⟨rfl, hb, hK⟩
end Go.Proofs.YtjgiiciniplbnaaGreatDoor

namespace Go.Proofs.YtjgiiciniplbnaaGreatDoor
open Go.RowKit

theorem disable (w : World) : (callFunc 200 #[]).run Tryz.prog w = .ok (.value (.tuple #[])) w := run_call_mark0 Tryz.func200 (by kernel_rfl) (by kernel_rfl) (by kernel_rfl) .disable (by kernel_rfl) w
theorem enable (w : World) : (callFunc 202 #[]).run Tryz.prog w = .ok (.value (.tuple #[])) w := run_call_mark0 Tryz.func202 (by kernel_rfl) (by kernel_rfl) (by kernel_rfl) .enable (by kernel_rfl) w
theorem acquire (a : Addr) (w : World) : (callFunc 203 #[.pointer (some a)]).run Tryz.prog w = .ok (.value (.tuple #[])) w := run_call_marked Tryz.func203 (by kernel_rfl) (by kernel_rfl) (by kernel_rfl) .acquire (by kernel_rfl) a w
theorem releaseMerge (a : Addr) (w : World) : (callFunc 205 #[.pointer (some a)]).run Tryz.prog w = .ok (.value (.tuple #[])) w := run_call_marked Tryz.func205 (by kernel_rfl) (by kernel_rfl) (by kernel_rfl) .releaseMerge (by kernel_rfl) a w

/-- '(*sync/atomic.Bool).Store(true)' as a deferred call: the cell holds 1. -/
theorem store_deferred (a : Addr) (x : Value) (u : FrameMode) (w : World) (hc : w.cell? a = some x) (hz : w.frozen? a = false) :
    CallsD Tryz.prog 192 #[.pointer (some a), .bool true] u w fun e u' w' => u' = u ∧ (e = .returned (.tuple #[]) ∧ w' = w.drew.setCell a (.int .u32 1)) := by
  have hc' : w.drew.cell? a = some x := by go_simp
  have hz' : w.drew.frozen? a = false := by go_simp
  have hst := run_call_store (P := Tryz.prog) Tryz.func198 (by kernel_rfl) (by kernel_rfl) (by kernel_rfl) (by kernel_rfl) (k := .u32) (y := 1) hc' hz'
  go_enter_d Tryz.func192, Tryz.ntmps192
  go_wp2
  go_region_calls
  all_goals (go_end0; exact ⟨rfl, rfl⟩)

set_option maxRecDepth 100000 in
/-- '(*sync.Mutex).Unlock' as a deferred call, the lock held and nobody waiting. -/
theorem unlock_deferred (a : Addr) (u : FrameMode) (w : World) (hc : w.cell? a = some (.int .i32 1)) (hz : w.frozen? a = false) :
    CallsD Tryz.prog 191 #[.pointer (some a)] u w fun e u' w' => u' = u ∧ (e = .returned (.tuple #[]) ∧ w' = w.setCell a (.int .i32 0)) := by
  have hd := disable
  have he := enable
  have hr := releaseMerge
  have hadd := run_call_add (P := Tryz.prog) Tryz.func206 (by kernel_rfl) (by kernel_rfl) (by kernel_rfl) .i32 (by kernel_rfl) (y := -1) (s := 0) hc hz (by simp [go_sem]; rfl)
  have hcv := run_convert_to_unsafe (P := Tryz.prog) (src := 274) (dst := 278) Tryz.underlying274 Tryz.underlying278 (by kernel_rfl) hc
  go_enter_d Tryz.func191, Tryz.ntmps191
  go_wp2
  go_end0
  go_wp2
  go_end0
  exact ⟨rfl, rfl⟩

set_option maxRecDepth 100000 in
/-- '(*sync.Mutex).Lock', the lock free. -/
theorem lock_free (a : Addr) (w : World) (hc : w.cell? a = some (.int .i32 0)) (hz : w.frozen? a = false) :
    Calls Tryz.prog 190 #[.pointer (some a)] w fun e w' => e = .returned (.tuple #[]) ∧ w' = w.setCell a (.int .i32 1) := by
  have hd := disable
  have he := enable
  have ha := acquire
  have hcas := run_call_cas_hit (P := Tryz.prog) Tryz.func201 (by kernel_rfl) (by kernel_rfl) (by kernel_rfl) .i32 (by kernel_rfl) (y := 1) hc hz
  have hc' : (w.setCell a (.int .i32 1)).cell? a = some (.int .i32 1) := World.cell?_setCell_same w a _ hc
  have hcv := run_convert_to_unsafe (P := Tryz.prog) (src := 274) (dst := 278) Tryz.underlying274 Tryz.underlying278 (by kernel_rfl) hc'
  go_enter Tryz.func190, Tryz.ntmps190
  go_wp2
  first | go_end0 | (simp only [Exit.inBlock, Exit.then]; refine bodyPost_ret (results_none rfl _ _ _) rfl ?_) | refine bodyPost_ret (results_none rfl _ _ _) rfl ?_
  go_wp2
  go_end0
  exact ⟨rfl, rfl⟩

theorem fcells_set0 (d m d' : Int) (tab : List Nat) : (fcells d m tab).setIfInBounds 0 (.int .u32 d') = fcells d' m tab := by simp [fcells]
theorem fcells_set1 (d m m' : Int) (tab : List Nat) : (fcells d m tab).setIfInBounds 1 (.int .i32 m') = fcells d m' tab := by simp [fcells]
theorem fcells_get0 (d m : Int) (tab : List Nat) : (fcells d m tab)[0]? = some (.int .u32 d) := by simp [fcells]
theorem fcells_get1 (d m : Int) (tab : List Nat) : (fcells d m tab)[1]? = some (.int .i32 m) := by simp [fcells]
theorem Fresh.locked {w : World} {b : Nat} (h : Fresh w b) : Filling (w.setCell ⟨b, 1, none⟩ (.int .i32 1)) b 0 := by
  have := heap_set h 1 (.int .i32 1)
  rw [fcells_set1] at this
  exact this
theorem Filling.done {w : World} {b : Nat} (h : Filling w b 255) : Built ((w.drew.setCell ⟨b, 0, none⟩ (.int .u32 1)).setCell ⟨b, 1, none⟩ (.int .i32 0)) b := by
  have h1 := heap_set (w := w.drew) h 0 (.int .u32 1)
  rw [fcells_set0] at h1
  have h2 := heap_set h1 1 (.int .i32 0)
  rw [fcells_set1] at h2
  exact h2

set_option maxRecDepth 100000 in
set_option maxHeartbeats 1600000 in
/-- '(*sync.Once).doSlow' of a Field whose tables are not built, called with its fill. -/
theorem slow_any (b : Nat) (w : World) (h : Fresh w b) :
    Calls Tryz.prog 174 #[.pointer (some ⟨b, 0, none⟩), .func (.func 142) #[.pointer (some ⟨b, 0, none⟩)] #[]] w fun e w' => e = .returned (.tuple #[]) ∧ Built w' b ∧ Kept b w w' := by
  have c0 : w.cell? ⟨b, 0, none⟩ = some (.int .u32 0) := (cell_of_heap h 0).trans (fcells_get0 _ _ _)
  have c1 : w.cell? ⟨b, 1, none⟩ = some (.int .i32 0) := (cell_of_heap h 1).trans (fcells_get1 _ _ _)
  have f0 : w.frozen? ⟨b, 0, none⟩ = false := free_of_heap h 0
  have f1 : w.frozen? ⟨b, 1, none⟩ = false := free_of_heap h 1
  have hF := h.locked
  have hl := run_call_load (P := Tryz.prog) Tryz.func189 (by kernel_rfl) (by kernel_rfl) (by kernel_rfl) .u32 (by kernel_rfl) (w := w.setCell ⟨b, 1, none⟩ (.int .i32 1)) (a := ⟨b, 0, none⟩) (x := 0) ((World.cell?_setCell_other _ ⟨b, 1, none⟩ ⟨b, 0, none⟩ _ (by simp)).trans c0)
  have hnot : ∀ (x : Bool) (w : World), (Op.unary .not (.bool x)).run Tryz.prog w = .ok (.bool (!x)) w := fun _ _ => rfl
  have hK1 : Kept b w (w.setCell ⟨b, 1, none⟩ (.int .i32 1)) := (Kept.refl b w).setCell rfl _
  clear h
  go_enter_defers Tryz.func174, Tryz.ntmps174
  go_wp2_with (first | (go_at_call 190; refine (lock_free ⟨b, 1, none⟩ _ (by go_simp) (by go_simp)).mono ?_; rintro e w' ⟨rfl, rfl⟩) | (go_at_call 173; go_in) | (go_at_call 142; refine (fill_any b _ hF).mono ?_; rintro e w2 ⟨rfl, hF2, hK2⟩))
  have d0 : w2.cell? ⟨b, 0, none⟩ = some (.int .u32 0) := (cell_of_heap hF2 0).trans (fcells_get0 _ _ _)
  have d1 : w2.cell? ⟨b, 1, none⟩ = some (.int .i32 1) := (cell_of_heap hF2 1).trans (fcells_get1 _ _ _)
  have g0 : w2.frozen? ⟨b, 0, none⟩ = false := free_of_heap hF2 0
  have g1 : w2.frozen? ⟨b, 1, none⟩ = false := free_of_heap hF2 1
  refine leaves_cons (f := 192) (args := #[.pointer (some ⟨b, 0, none⟩), .bool true]) (by simp) (by simp [go_sem]) ?_
  refine (store_deferred ⟨b, 0, none⟩ (.int .u32 0) .returning _ d0 g0).mono ?_
  rintro e u' w'' ⟨rfl, rfl, rfl⟩
  refine leaves_cons (f := 191) (args := #[.pointer (some ⟨b, 1, none⟩)]) (by simp [settle]) (by simp [go_sem]) ?_
  refine (unlock_deferred ⟨b, 1, none⟩ _ _ ?_ (by simp [g1])).mono ?_
  · refine (World.cell?_setCell_other _ ⟨b, 0, none⟩ ⟨b, 1, none⟩ _ (by simp)).trans ?_
    rw [World.cell?_drew]
    exact d1
  rintro e u' w'' ⟨rfl, rfl, rfl⟩
  have hfin := hF2.done
  have hkin := ((((hK1.trans hK2).drew).setCell (p := ⟨b, 0, none⟩) rfl (.int .u32 1))).setCell (p := ⟨b, 1, none⟩) rfl (.int .i32 0)
  simp [Leaves, settle, results, Tryz.results174]
  exact ⟨hfin, hkin⟩

/-- '(*sync.Once).Do' of a Field whose tables are not built. -/
theorem do_first (b : Nat) (w : World) (h : Fresh w b) :
    Calls Tryz.prog 141 #[.pointer (some ⟨b, 0, none⟩), .func (.func 142) #[.pointer (some ⟨b, 0, none⟩)] #[]] w fun e w' => e = .returned (.tuple #[]) ∧ Built w' b ∧ Kept b w w' := by
  have c0 : w.cell? ⟨b, 0, none⟩ = some (.int .u32 0) := (cell_of_heap h 0).trans (fcells_get0 _ _ _)
  have hl := run_call_load (P := Tryz.prog) Tryz.func189 (by kernel_rfl) (by kernel_rfl) (by kernel_rfl) .u32 (by kernel_rfl) c0
  have hnot : ∀ (x : Bool) (w : World), (Op.unary .not (.bool x)).run Tryz.prog w = .ok (.bool (!x)) w := fun _ _ => rfl
  go_enter Tryz.func141, Tryz.ntmps141
  go_wp2_with (first | (go_at_call 174; refine (slow_any b _ h).mono ?_; rintro e w' ⟨rfl, hb, hk⟩) | (go_at_call 173; go_in))
  go_end0
  exact ⟨rfl, hb, hk⟩

/-- '(*sync.Once).Do' of a Field with its tables: nothing is done. -/
theorem do_done (b : Nat) (fv : Value) (w : World) (h : Built w b) :
    Calls Tryz.prog 141 #[.pointer (some ⟨b, 0, none⟩), fv] w fun e w' => e = .returned (.tuple #[]) ∧ w = w' := by
  have c0 : w.cell? ⟨b, 0, none⟩ = some (.int .u32 1) := (cell_of_heap h 0).trans (fcells_get0 _ _ _)
  have hl := run_call_load (P := Tryz.prog) Tryz.func189 (by kernel_rfl) (by kernel_rfl) (by kernel_rfl) .u32 (by kernel_rfl) c0
  have hnot : ∀ (x : Bool) (w : World), (Op.unary .not (.bool x)).run Tryz.prog w = .ok (.bool (!x)) w := fun _ _ => rfl
  go_enter Tryz.func141, Tryz.ntmps141
  go_wp2
  go_end0
  exact ⟨rfl, rfl⟩

/-- build -/
theorem build_any (b : Nat) (w : World) (h : Fld w b) :
    Calls Tryz.prog 114 #[.pointer (some ⟨b, 0, none⟩)] w fun e w' => e = .returned (.tuple #[]) ∧ Built w' b ∧ Kept b w w' := by
  have hmf : ∀ (fn : Fn) (first cap : Array Value) (w : World), (Instr.makeFunc fn first cap).run Tryz.prog w = .ok (.func fn first cap) w := fun _ _ _ _ => rfl
  rcases h with h | h
  · go_enter Tryz.func114, Tryz.ntmps114
    go_wp2_with (go_at_call 141; refine (do_first b _ h).mono ?_; rintro e w' ⟨rfl, hb, hk⟩)
    go_end0
    exact ⟨rfl, hb, hk⟩
  · go_enter Tryz.func114, Tryz.ntmps114
    go_wp2_with (go_at_call 141; refine (do_done b _ _ h).mono ?_; rintro e w' ⟨rfl, rfl⟩)
    go_end0
    exact ⟨rfl, h, Kept.refl _ _⟩
end Go.Proofs.YtjgiiciniplbnaaGreatDoor

namespace Go.Proofs.YtjgiiciniplbnaaGreatDoor
open Go.RowKit

/-- the block holds k pieces of L bytes with the bytes D, each in a block of its own -/
structure Pcs (w : World) (b B k L : Nat) (bf : Nat → Nat) (D : Nat → List Nat) : Prop where
  own : POwn w b (mkps bf L k k)
  row : ∀ j, j < k → Own w (bf j) (D j)
  low : ∀ j, j < k → B ≤ bf j
  inj : ∀ i j, i < j → j < k → bf i ≠ bf j
  notb : ∀ j, j < k → bf j ≠ b

theorem Encode_nilsize (fb : Nat) (k t : Int) (a : Option Addr) (n c : Nat) (h : ¬ (1 ≤ k ∧ k ≤ t ∧ t ≤ 255)) (w : World) :
    Calls Tryz.prog 85 #[.pointer (some ⟨fb, 0, none⟩), .int .i64 k, .int .i64 t, .slice a n c] w fun e w' => e = .returned (.tuple #[.slice none 0 0, .int .i64 2]) ∧ w = w' := by
  have hnot : ∀ (x : Bool) (w : World), (Op.unary .not (.bool x)).run Tryz.prog w = .ok (.bool (!x)) w := fun _ _ => rfl
  have H := hid h
  clear h
  go_enter Tryz.func85, Tryz.ntmps85
  go_wp2_with (go_at_call 113; refine (valid_no k t H.out _).mono ?_; rintro e w' ⟨rfl, rfl⟩)
  go_ret2
  exact ⟨rfl, rfl⟩
theorem Encode_long (fb : Nat) (k t : Int) (a : Option Addr) (n c : Nat) (h1 : 1 ≤ k) (h2 : k ≤ t) (h3 : t ≤ 255) (hn : 8192 < n) (w : World) :
    Calls Tryz.prog 85 #[.pointer (some ⟨fb, 0, none⟩), .int .i64 k, .int .i64 t, .slice a n c] w fun e w' => e = .returned (.tuple #[.slice none 0 0, .int .i64 3]) ∧ w = w' := by
  have hnot : ∀ (x : Bool) (w : World), (Op.unary .not (.bool x)).run Tryz.prog w = .ok (.bool (!x)) w := fun _ _ => rfl
  go_enter Tryz.func85, Tryz.ntmps85
  go_wp2_with (go_at_call 113; refine (valid_yes k t h1 h2 h3 _).mono ?_; rintro e w' ⟨rfl, rfl⟩)
  go_ret2
  exact ⟨rfl, rfl⟩

theorem pos_size36 : (Tryz.prog.info? 68).map (·.size) = some 2 := by kernel_rfl

/-- what the loop of Encode keeps: the source's parts, the pieces made so far -/
structure EncInv (fb f g pb sb xb k t L : Nat) (bf0 bf : Nat → Nat) (d : List Nat) (w wr : World) (i : Nat) : Prop where
  built : Built wr fb
  first : POwn wr f (mkps bf0 L k k)
  src : ∀ j, j < k → Own wr (bf0 j) (spl d L j)
  places : Own wr pb (List.range k)
  scl : Own wr sb (scales (List.range k))
  box : wr.heap[xb]? = some (Obj.cells #[Value.slice (some ⟨f, 0, none⟩) k k, Value.pointer (some ⟨fb, 0, none⟩), Value.slice (some ⟨pb, 0, none⟩) k k, Value.slice (some ⟨sb, 0, none⟩) k k] 197)
  out : POwn wr g (mkps bf L t i)
  rows : ∀ j, j < i → Own wr (bf j) (encP d k L j)
  same : ∀ j, j < k → bf j = bf0 j
  up : ∀ i' j, i' < j → j < i → bf i' < bf j
  notg : ∀ j, j < i → bf j ≠ g
  low : ∀ j, j < i → w.heap.size ≤ bf j
  kept : Kept fb w wr
  ne : fb ≠ g ∧ f ≠ g ∧ pb ≠ g ∧ sb ≠ g ∧ xb ≠ g
  glow : w.heap.size ≤ g

theorem EncInv.step {fb f g pb sb xb k t L : Nat} {bf0 bf : Nat → Nat} {d : List Nat} {w wr : World} {i : Nat} (h : EncInv fb f g pb sb xb k t L bf0 bf d w wr i) (hi : i < t) (hk : k ≤ i) (w5 : World) (ob : Nat) (hb : Below wr.heap.size wr w5) (hob : wr.heap.size ≤ ob) (ho : Own w5 ob (encP d k L i)) :
    EncInv fb f g pb sb xb k t L bf0 (fun j => if j = i then ob else bf j) d w ((w5.setCell ⟨g, i * 2, none⟩ (.int .i64 i)).setCell ⟨g, i * 2 + 1, none⟩ (.slice (some ⟨ob, 0, none⟩) L L)) (i + 1) := by
  obtain ⟨n1, n2, n3, n4, n5⟩ := h.ne
  have hgl := h.out.lt
  have hos := h.out.below hb hgl
  have hset := hos.set i (by rw [mkps_length]; exact hi) ((i : Int), some ⟨ob, 0, none⟩, L, L)
  rw [mkps_set bf L t i ob hi] at hset
  refine ⟨?_, ?_, ?_, ?_, ?_, ?_, hset, ?_, ?_, ?_, ?_, ?_, ?_, h.ne, h.glow⟩
  · exact ((h.built.below hb h.built.lt).setCell (fun e => n1 e.symm) _).setCell (fun e => n1 e.symm) _
  · exact ((h.first.below hb h.first.lt).setCell (fun e => n2 e.symm) _).setCell (fun e => n2 e.symm) _
  · intro j hj
    have h1 := h.src j hj
    have h2 := h.notg j (by omega)
    rw [h.same j hj] at h2
    exact ((h1.below hb h1.lt).setCell (fun e => h2 e.symm) _).setCell (fun e => h2 e.symm) _
  · exact ((h.places.below hb h.places.lt).setCell (fun e => n3 e.symm) _).setCell (fun e => n3 e.symm) _
  · exact ((h.scl.below hb h.scl.lt).setCell (fun e => n4 e.symm) _).setCell (fun e => n4 e.symm) _
  · have hx := lt_of_heap h.box
    exact (Below.heap_setCell _ _ _ _ n5).trans ((Below.heap_setCell _ _ _ _ n5).trans ((hb.block xb hx).trans h.box))
  · intro j hj
    show Own _ (if j = i then ob else bf j) _
    by_cases e : j = i
    · rw [if_pos e, e]
      exact (ho.setCell (fun e2 : g = ob => by omega) _).setCell (fun e2 : g = ob => by omega) _
    · rw [if_neg e]
      have h1 := h.rows j (by omega)
      have h2 := h.notg j (by omega)
      exact ((h1.below hb h1.lt).setCell (fun e => h2 e.symm) _).setCell (fun e => h2 e.symm) _
  · intro j hj
    show (if j = i then ob else bf j) = _
    rw [if_neg (by omega)]; exact h.same j hj
  · intro i' j hij hj
    show (if i' = i then ob else bf i') < (if j = i then ob else bf j)
    rw [if_neg (by omega)]
    by_cases e : j = i
    · rw [if_pos e]; have := (h.rows i' (by omega)).lt; omega
    · rw [if_neg e]; exact h.up i' j hij (by omega)
  · intro j hj
    show (if j = i then ob else bf j) ≠ g
    by_cases e : j = i
    · rw [if_pos e]; omega
    · rw [if_neg e]; exact h.notg j (by omega)
  · intro j hj
    show w.heap.size ≤ (if j = i then ob else bf j)
    by_cases e : j = i
    · rw [if_pos e]; have := h.glow; omega
    · rw [if_neg e]; exact h.low j (by omega)
  · exact ((h.kept.trans (Kept.of_below hb)).setNew h.glow _).setNew h.glow _

set_option maxRecDepth 100000 in
set_option maxHeartbeats 1000000 in
theorem Encode_any (fb k t : Nat) (a : Option Addr) (n c : Nat) (d : List Nat) (w : World) (hF : Fld w fb) (hd : Bs w (.slice a n c) d) (hoff : Off fb (.slice a n c)) (hnc : n ≤ c) (h1 : 1 ≤ k) (h2 : k ≤ t) (h3 : t ≤ 255) (hn : n ≤ 8192) :
    Calls Tryz.prog 85 #[.pointer (some ⟨fb, 0, none⟩), .int .i64 k, .int .i64 t, .slice a n c] w fun e w' => ∃ g bf, w.heap.size ≤ g ∧ e = .returned (.tuple #[.slice (some ⟨g, 0, none⟩) t t, .int .i64 0]) ∧ Pcs w' g w.heap.size t (plen k n) bf (encP d k (plen k n)) ∧ Built w' fb ∧ Kept fb w w' := by
  have hnot : ∀ (x : Bool) (w : World), (Op.unary .not (.bool x)).run Tryz.prog w = .ok (.bool (!x)) w := fun _ _ => rfl
  have hmk := mk_p t (by omega)
  have HF := hid hF
  have hfb0 := hF.lt
  clear hF
  have hLn := plen_le k n h1
  go_enter Tryz.func85, Tryz.ntmps85
  go_wp2_with fail
  refine (valid_yes k t (by omega) (by omega) (by omega) _).mono ?_
  rintro e w' ⟨rfl, rfl⟩
  go_wp2_with fail
  refine (build_any fb _ HF.out).mono ?_
  rintro e w1 ⟨rfl, hB, hk⟩
  have hd1 := hd.kept hk hoff
  go_wp2_with fail
  refine (split_any k a n c d _ hd1 hnc h1 (by omega) hn).mono ?_
  rintro e w2 ⟨bf0, rfl, hpo, hrow, hinj, hb2⟩
  have HROW := hid hrow
  have HINJ := hid hinj
  have hspl : ∀ {j}, ∀ n' ∈ spl d (plen k n) j, n' < 256 := fun {j} x hx => by
    unfold spl at hx
    obtain ⟨c', _, rfl⟩ := List.mem_map.1 hx
    exact hd.lt _
  have HSPL := hid (fun j => @hspl j)
  clear hrow hinj hd hd1 hspl
  generalize hL : plen k n = L at *
  have HL := hid hL
  clear hL
  have hf2 := hpo.lt
  have hlenk : (pcells (mkps bf0 L k k)).length = k * 2 := by rw [pcells_length, mkps_length]; omega
  have hlent : (pcells (mkps bf0 L k k)).length ≤ (pcells (List.replicate t (0, none, 0, 0))).length := by rw [pcells_length, mkps_length, pcells_length, List.length_replicate]; omega
  have hp2 := pown_prow w2 t
  have hpo2 := hpo.alloc (prow t)
  have hmin : Nat.min k t = k := Nat.min_eq_left h2
  have hsrc : ∀ j v, (pcells (mkps bf0 L k k))[j]? = some v → (w2.alloc (prow t)).cell? ((⟨w1.heap.size, 0, none⟩ : Addr).add j) = some v := fun j v hj => by
    have e : (⟨w1.heap.size, 0, none⟩ : Addr).add j = ⟨w1.heap.size, j, none⟩ := by unfold Addr.add; split <;> simp_all
    rw [e, cell_of_heap hpo2]
    simpa using hj
  have HS := hid hsrc
  have HMIN := hid hmin
  have HONE := hid (pcells_one (mkps bf0 L k k))
  have HP2 := hid hp2
  have hcop := pcells_copied bf0 L k t h2
  have HCOP := hid hcop
  clear hsrc hmin hp2 hcop
  generalize hcs : pcells (mkps bf0 L k k) = cs at *
  have HCS := hid hcs
  clear hcs
  have HLK := hid hlenk
  clear hlenk
  go_wp2_with (refine wpList_copy_pairs rfl (.tmp 30) (.tmp 31) 63 63 rfl 68 Tryz.underlying63 pos_size36 w2.heap.size t t ⟨w1.heap.size, 0, none⟩ k k rfl rfl (pcells (List.replicate t (0, none, 0, 0))) 68 ?hg cs k HMIN.out HLK.out HS.out hlent HONE.out ?_)
  case hg => exact HP2.out
  intro w3 hg3 hk3
  have hout3 : POwn w3 w2.heap.size (mkps bf0 L t k) := by
    have := hg3.out
    rw [HCOP.out] at this
    exact this
  have hfirst3 : POwn w3 w1.heap.size (mkps bf0 L k k) := (hk3.block w1.heap.size (by simp; omega) (by omega)).trans hpo2
  have hB3 : Built w3 fb := (hk3.block fb (by have := hB.lt; have := hb2.size; simp; omega) (by have := hB.lt; have := hb2.size; omega)).trans ((hB.below hb2 hB.lt).alloc _)
  have hb23 : Below w1.heap.size w1 w3 := (hb2.trans ((Below.refl _ _).alloc (by omega) _)).trans (hk3.below (by simp; omega) (by omega))
  have hps3 := hfirst3.ps k k (by rw [mkps_length])
  have HPS3 := hid hps3
  have HK3 := hid hk3
  clear hps3 hpo2 hk3 hg3 HP2 HS hlent
  have hrl : (List.range k).length = (mkps bf0 L k k).length := by rw [mkps_length]; simp
  have hnum : ∀ i, (h : i < (mkps bf0 L k k).length) → (mkps bf0 L k k)[i].1 = (((List.range k).getD i 0 : Nat) : Int) := fun i h => by
    rw [mkps_length] at h
    rw [mkps_get _ _ _ _ _ _ h]
    simp [List.getElem?_range h]
  have hrange : ∀ x ∈ List.range k, x < 256 := fun x hx => by have := List.mem_range.1 hx; omega
  have hnod : (List.range k).Nodup := List.nodup_range
  have HNUM := hid hnum
  have HRL := hid hrl
  have HRANGE := hid hrange
  have HNOD := hid hnod
  clear hnum hrl hrange hnod
  go_wp2_with fail
  refine (newSource_n fb w1.heap.size 0 k k (mkps bf0 L k k) (List.range k) (by rw [mkps_length]) _ hB3 HPS3.out (by omega) (by omega) HRL.out HNUM.out HRANGE.out HNOD.out).mono ?_
  rintro e w4 ⟨pb, sb, hpb, hsb, rfl, hopb, hosb, hb4⟩
  have hsz34 := hb4.size
  have hB4 := hB3.below hb4 hB3.lt
  have hout4 := hout3.below hb4 hout3.lt
  have hfirst4 := hfirst3.below hb4 hfirst3.lt
  have hinv : EncInv fb w1.heap.size w2.heap.size pb sb w4.heap.size k t L bf0 bf0 d w (w4.alloc (Obj.cells #[Value.slice (some ⟨w1.heap.size, 0, none⟩) k k, Value.pointer (some ⟨fb, 0, none⟩), Value.slice (some ⟨pb, 0, none⟩) k k, Value.slice (some ⟨sb, 0, none⟩) k k] 197)) k := by
    have hsz1 : w.heap.size ≤ w1.heap.size := hk.size
    have hr : ∀ j, j < k → Own w4 (bf0 j) (spl d L j) ∧ bf0 j ≠ w2.heap.size ∧ w.heap.size ≤ bf0 j := fun j hj => by
      obtain ⟨h5, h6⟩ := HROW.out j hj
      have h7 := h6.lt
      have h8 : Own w3 (bf0 j) (spl d L j) := (HK3.out.block (bf0 j) (by simp; omega) (by omega)).trans (h6.alloc _)
      exact ⟨h8.below hb4 h8.lt, by omega, by omega⟩
    have hb2s := hb2.size
    have h3s := HK3.out.size
    rw [World.size_alloc] at h3s
    refine ⟨hB4.alloc _, hfirst4.alloc _, fun j hj => (hr j hj).1.alloc _, hopb.alloc _, hosb.alloc _, heap_new _ _, hout4.alloc _, fun j hj => ?_, fun _ _ => rfl, fun i' j hij hj => HINJ.out i' j hij hj, fun j hj => (hr j hj).2.1, fun j hj => (hr j hj).2.2, ?_, ⟨by omega, by omega, by omega, by omega, by omega⟩, by omega⟩
    · unfold encP
      rw [if_pos hj]
      exact (hr j hj).1.alloc _
    · have hb34 : Below w1.heap.size w1 w4 := hb23.trans (hb4.mono (by omega))
      exact (hk.trans (Kept.of_below hb34)).alloc _
  have HINV := hid hinv
  have hpbl := hopb.lt
  have hsbl := hosb.lt
  have hw24 : w2.heap.size < w4.heap.size := hout4.lt
  clear hinv hopb hosb hB4 hout4 hfirst4 hb4 hB3 hout3 hfirst3 hb23 hpo hB
  go_wp2
  go_loopw [13] (fun iv wr => ∃ (i : Nat) (bf : Nat → Nat), k ≤ i ∧ i ≤ t ∧ iv = .int .i64 i ∧ Hid (EncInv fb w1.heap.size w2.heap.size pb sb w4.heap.size k t L bf0 bf d w wr i)) (fun iv _ => t - (intOf iv).toNat)
  case atStart => exact ⟨k, bf0, by omega, by omega, rfl, HINV⟩
  case round =>
    clear HINV
    obtain ⟨i, bf, hki, hit, rfl, HINV⟩ := hrel
    by_cases hlt : i < t
    · have hx := HINV.out.box
      have x0 := cell_of_heap hx 0
      have x1 := cell_of_heap hx 1
      have x2 := cell_of_heap hx 2
      have x3 := cell_of_heap hx 3
      clear hx
      have hps := HINV.out.first.ps k k (by rw [mkps_length])
      have HPS := hid hps
      clear hps
      have hdat : ∀ j, (h : j < (mkps bf0 L k k).length) → Bs wr (.slice (mkps bf0 L k k)[j].2.1 (mkps bf0 L k k)[j].2.2.1 (mkps bf0 L k k)[j].2.2.2) (((List.range k).map (spl d L)).getD j []) ∧ (((List.range k).map (spl d L)).getD j []).length = L := fun j h => by
        have hj : j < k := by rwa [mkps_length] at h
        rw [mkps_get _ _ _ _ _ h hj, range_map_getD _ _ _ hj]
        refine ⟨?_, spl_length _ _ _⟩
        have h5 := HINV.out.src j hj
        have h6 := h5.bs (HSPL.out j) L
        rw [spl_length] at h6
        exact h6
      have HDAT := hid hdat
      have hpl : Bs wr (.slice (some ⟨pb, 0, none⟩) k k) (List.range k) := by
        have h5 := HINV.out.places.bs HRANGE.out k
        rwa [List.length_range] at h5
      have hsl : Bs wr (.slice (some ⟨sb, 0, none⟩) k k) (scales (List.range k)) := by
        have h5 := HINV.out.scl.bs (scales_lt _) k
        rwa [scales_length, List.length_range] at h5
      clear hdat
      go_wp2_with fail
      refine (piece_any fb w1.heap.size 0 k pb 0 k sb 0 k k L i (mkps bf0 L k k) (List.range k) ((List.range k).map (spl d L)) _ HINV.out.built HPS.out (by omega) (by omega) (by rw [mkps_length]) (by rw [List.length_range]) HDAT.out hpl hsl (by omega) (by omega)).mono ?_
      rintro e w5 ⟨ob, hob, rfl, hoo, hb5⟩
      have hstep := HINV.out.step hlt hki w5 ob hb5 hob (by unfold encP; rw [if_neg (by omega)]; exact hoo)
      have HSTEP := hid hstep
      have hout := HINV.out.out.below hb5 HINV.out.out.lt
      have c0 := hout.cell0 i (by rw [mkps_length]; exact hlt)
      have c1 := hout.cell1 i (by rw [mkps_length]; exact hlt)
      have f0 := hout.free (i * 2)
      have f1 := hout.free (i * 2 + 1)
      generalize (mkps bf L t i)[i]'(by rw [mkps_length]; exact hlt) = p0 at *
      clear hstep hout hoo hb5 hpl hsl x0 x1 x2 x3
      go_wp2
      exact ⟨⟨i + 1, _, by omega, by omega, by go_num, HSTEP⟩, by simp [intOf]; omega⟩
    · obtain rfl : i = t := by omega
      go_wp2
      go_ret2
      rw [HL.out]
      refine ⟨w2.heap.size, bf, HINV.out.glow, rfl, ⟨HINV.out.out, HINV.out.rows, HINV.out.low, fun i' j hij hj => by have := HINV.out.up i' j hij hj; omega, HINV.out.notg⟩, HINV.out.built, HINV.out.kept⟩
end Go.Proofs.YtjgiiciniplbnaaGreatDoor

namespace Go.Proofs.YtjgiiciniplbnaaGreatDoor
open Go Go.RowKit
set_option linter.unusedVariables false

/-- block g holds the bytes l and what lies behind them, and may be written -/
def Buf (w : World) (g cap : Nat) (l : List Nat) : Prop := ∃ cur : Array Value, w.heap[g]? = some (.cells cur 5 (0, 0)) ∧ cur.size = cap ∧ l.length ≤ cap ∧ cur.toList.take l.length = u8s l
theorem Buf.lt {w : World} {g cap : Nat} {l : List Nat} (h : Buf w g cap l) : g < w.heap.size := by obtain ⟨_, h1, _⟩ := h; exact lt_of_heap h1
theorem Buf.of_same {w w' : World} {g cap : Nat} {l : List Nat} (h : Buf w g cap l) (hs : w'.heap[g]? = w.heap[g]?) : Buf w' g cap l := by
  obtain ⟨cur, h1, h2⟩ := h
  exact ⟨cur, hs.trans h1, h2⟩
theorem Buf.drewN {w : World} {g cap : Nat} {l : List Nat} (h : Buf w g cap l) (q : Nat) : Buf (w.drewN q) g cap l := h
theorem Buf.cell {w : World} {g cap : Nat} {l : List Nat} (h : Buf w g cap l) (i : Nat) (hi : i < l.length) : w.cell? ⟨g, i, none⟩ = some (.int .u8 (l.getD i 0)) := by
  obtain ⟨cur, h1, h2, h3, h4⟩ := h
  rw [cell_of_heap h1, ← Array.getElem?_toList, ← List.getElem?_take_of_lt hi, h4]
  simp [u8s, List.getElem?_eq_getElem hi]
theorem Buf.free {w : World} {g cap : Nat} {l : List Nat} (h : Buf w g cap l) (i : Nat) : w.frozen? ⟨g, i, none⟩ = false := by
  obtain ⟨cur, h1, _⟩ := h
  exact free_of_heap h1 i
theorem Buf.bs {w : World} {g cap : Nat} {l : List Nat} (h : Buf w g cap l) (hl : ∀ n ∈ l, n < 256) (c : Nat) : Bs w (.slice (some ⟨g, 0, none⟩) l.length c) l :=
  ⟨_, c, rfl, hl, fun _ => ⟨g, 0, rfl, fun i hi => by rw [Nat.zero_add]; exact h.cell i hi⟩⟩
theorem Buf.set {w : World} {g cap : Nat} {l : List Nat} (h : Buf w g cap l) (i n : Nat) (hi : i < l.length) : Buf (w.setCell ⟨g, i, none⟩ (.int .u8 n)) g cap (l.set i n) := by
  obtain ⟨cur, h1, h2, h3, h4⟩ := h
  refine ⟨cur.setIfInBounds i (.int .u8 n), ?_, by simpa using h2, by simpa using h3, ?_⟩
  · have h5 : w.heap[g]? = some (.cells cur.toList.toArray 5 (0, 0)) := by simpa using h1
    have h6 := heap_set h5 i (.int .u8 n)
    rw [h6]
  · rw [List.length_set, Array.toList_setIfInBounds, List.take_set, h4]
    simp [u8s, List.map_set]
theorem Buf.setCell {w : World} {g cap : Nat} {l : List Nat} (h : Buf w g cap l) {p : Addr} (hp : p.block ≠ g) (u : Value) : Buf (w.setCell p u) g cap l := h.of_same (Below.heap_setCell _ _ _ _ (fun e => hp e.symm))
theorem buf_of_owns {w : World} {base m c : Nat} {a : Option Addr} {l : List Nat} (h : w.ownsRow base 5 1 (.slice a m c) m (u8s l)) (h0 : 0 < m) : ∃ g, a = some ⟨g, 0, none⟩ ∧ base ≤ g ∧ Buf w g c l ∧ m = l.length := by
  obtain ⟨h1, h2⟩ := h
  have hm : m = l.length := by simpa [u8s] using h1.symm
  rcases h2 with ⟨_, h3⟩ | ⟨g, cap, cur, h3, hg, hh, hc, _, hs, ht⟩
  · omega
  · simp only [Value.slice.injEq] at h3
    obtain ⟨rfl, _, rfl⟩ := h3
    exact ⟨g, rfl, hg, ⟨cur, hh, by omega, by omega, by rw [← ht, hm]; simp⟩, hm⟩

theorem wpList_cloneB {w : World} {ops : Array Oper} {rest : List Oper} {o : Oper} {a : Act} {Q : Exit → Act → World → Prop} (hgd : o.guard = none) (s x : Operand)
    (ho : o.op = .call { callee := .builtin .append, args := #[s, x], argTypes := #[66, 66] }) (g0 : Nat) (hs : a.eval s = .slice (some ⟨g0, 0, none⟩) 0 0) (hg0 : w.heap[g0]? = some (.cells #[] 5 (0, 0)))
    (sa : Option Addr) (m c : Nat) (l : List Nat) (hx : a.eval x = .slice sa m c) (hb : Bs w (.slice sa m c) l) (hnil : sa = none → c = 0) (hm : m ≤ 4611686018427)
    (h : ∀ a' c' w', Bs w' (.slice a' m c') l → m ≤ c' → (∀ ad, a' = some ad → g0 ≤ ad.block ∧ ad.block < w'.heap.size) → (a' = none → c' = 0) → Kept g0 w w' → w'.ownsRow g0 5 1 (.slice a' m c') m (u8s l) → wpList Tryz.prog ops Q rest (a.put o.dst (.slice a' m c')) w') :
    wpList Tryz.prog ops Q (o :: rest) a w := by
  obtain ⟨i0, hi, hz0, hz1, hz2⟩ := info_parts info5
  have hown : w.ownsRow g0 5 1 (.slice (some ⟨g0, 0, none⟩) 0 0) 0 [] := ⟨rfl, .inr ⟨g0, 0, #[], rfl, Nat.le_refl _, hg0, Nat.le_refl _, Nat.zero_le _, rfl, rfl⟩⟩
  have hlt := lt_of_heap hg0
  have hl : ∀ n ∈ l, n < 256 := by obtain ⟨_, _, _, h, _⟩ := hb; exact h
  have hlen := hb.len
  cases sa with
  | none =>
    obtain rfl := hnil rfl
    rcases hb.addr with ⟨h0, _⟩ | ⟨_, b, o, c', hv⟩
    · subst h0
      obtain rfl : m = 0 := hlen
      refine Go.wpList_append_own_none hgd s x _ ho g0 _ i0 1 Tryz.underlying66 hi _ 0 [] hs hown hx ?_
      exact h _ _ _ ⟨_, 0, rfl, fun n hn => absurd hn List.not_mem_nil, fun e => absurd rfl e⟩ (Nat.le_refl _) (fun ad h => by cases h; exact ⟨Nat.le_refl _, hlt⟩) (fun h => by cases h) (Kept.refl _ _) hown
    · simp at hv
  | some ad =>
    have hnews : ∀ j u, (u8s l)[j]? = some u → w.cell? (ad.add j) = some u := fun j u hj => by
      have hjl : j < l.length := by have := (List.getElem?_eq_some_iff.1 hj).1; simpa [u8s] using this
      rcases hb.addr with ⟨h0, _⟩ | ⟨_, b, o, c', hv⟩
      · rw [h0] at hjl; exact absurd hjl (Nat.not_lt_zero _)
      · simp only [Value.slice.injEq, Option.some.injEq] at hv
        obtain ⟨rfl, _, _⟩ := hv
        have hc := hb.cell j hjl
        have e : (⟨b, o, none⟩ : Addr).add j = ⟨b, o + j, none⟩ := by unfold Addr.add; split <;> simp_all
        rw [e, hc, ← hj]
        simp [u8s, List.getElem?_eq_getElem hjl]
    refine Go.wpList_append_own _ hgd s x _ ho g0 5 i0 (.int .u8 0) 1 1 Tryz.underlying66 hi hz0 hz1 hz2 rfl (by decide) _ 0 [] hs hown ad m c (u8s l) hx (by simp [u8s]; omega) hnews (fun u hu => by
      unfold u8s at hu
      obtain ⟨y, _, rfl⟩ := List.mem_map.1 hu
      rfl) (by unfold maxLen; omega) (by omega) (by omega) ?_
    intro v' w' hown' hg hn
    rw [Nat.zero_add, List.nil_append] at hown'
    have hown2 := hown'
    obtain ⟨a', c', rfl, hm', hmc, hb', hbl⟩ := bs_of_owns hown' hl
    refine h a' c' w' hb' hmc hbl (fun e => ?_) ⟨hg.os, hg.tape, hg.output, hg.size, fun k hk hkg => hg.block k hk (by intro e; exact hkg (Option.some.inj e))⟩ hown2
    subst e
    obtain ⟨_, h2⟩ := hown'
    rcases h2 with ⟨h3, _⟩ | ⟨g, cap, cur, h3, _⟩
    · simp at h3; exact h3.2
    · simp at h3

theorem Pcs.kept {w w' : World} {g B t L fb : Nat} {bf : Nat → Nat} {D : Nat → List Nat} (h : Pcs w g B t L bf D) (k : Kept fb w w') (hg : fb ≠ g) (hB : fb < B) : Pcs w' g B t L bf D := by
  refine ⟨(k.block g h.own.lt (fun e => hg e.symm)).trans h.own, fun j hj => ?_, h.low, h.inj, h.notb⟩
  have h1 := h.row j hj
  have h2 := h.low j hj
  exact (k.block (bf j) h1.lt (by omega)).trans h1
theorem Pcs.below {w w' : World} {g B t L : Nat} {bf : Nat → Nat} {D : Nat → List Nat} (h : Pcs w g B t L bf D) (k : Below w.heap.size w w') : Pcs w' g B t L bf D :=
  ⟨(k.block g h.own.lt).trans h.own, fun j hj => (k.block (bf j) (h.row j hj).lt).trans (h.row j hj), h.low, h.inj, h.notb⟩
end Go.Proofs.YtjgiiciniplbnaaGreatDoor
