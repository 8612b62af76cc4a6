/-
  ParseHex on numbers: the value of a digit, the digest so far. · ParseHex. · The reference's digit and OfDigits.
-/
import Derived.Test.YthcgdpedjjhjpaaDoorHex
import Derived.Lib.Bytealg
import Derived.Test.YthcgdpedjjhjpaaDoorSum
import Derived.Deep.DeepCutAuto
import Derived.Lib.Strings
import Derived.Lib.Walk
namespace Go.Proofs.YthcgdpedjjhjpaaDoor
open Go Go.RowKit
set_option linter.unusedVariables false

/-- the value of a digit, 16 for any other letter -/
def hv (x : Nat) : Nat := if 48 ≤ x ∧ x ≤ 57 then x - 48 else if 97 ≤ x ∧ x ≤ 102 then x - 87 else 16
def hvI (x : Nat) : Int := if hv x < 16 then (hv x : Int) else -1
theorem hv_index (x : Nat) (hx : x < 256) : Lib.indexByte (⟨#[48, 49, 50, 51, 52, 53, 54, 55, 56, 57, 97, 98, 99, 100, 101, 102]⟩ : ByteArray).data.toList ((x : Int)).toNat.toUInt8 = hvI x := by
  have h : ∀ q : Fin 256, Lib.indexByte (⟨#[48, 49, 50, 51, 52, 53, 54, 55, 56, 57, 97, 98, 99, 100, 101, 102]⟩ : ByteArray).data.toList ((q.val : Int)).toNat.toUInt8 = hvI q.val := by decide +kernel
  exact h ⟨x, hx⟩
theorem hexD_hv (x : Nat) (h : hv x < 16) : hexD.getD (hv x) 0 = x := by
  have hx : x < 256 := by
    unfold hv at h
    split at h
    · omega
    · split at h
      · omega
      · omega
  have h1 : ∀ q : Fin 256, hv q.val < 16 → hexD.getD (hv q.val) 0 = q.val := by decide +kernel
  exact h1 ⟨x, hx⟩ h
theorem hv_hexD (k : Nat) (h : k < 16) : hv (hexD.getD k 0) = k := by
  have h1 : ∀ q : Fin 16, hv (hexD.getD q.val 0) = q.val := by decide +kernel
  exact h1 ⟨k, h⟩
/-- byte j of the digest when i digits have been read -/
def pd (s : List Nat) (i j : Nat) : Nat := if 2 * j + 2 ≤ i then hv (s.getD (2 * j) 0) * 16 + hv (s.getD (2 * j + 1) 0) else if 2 * j + 1 ≤ i then hv (s.getD (2 * j) 0) else 0
def pdL (s : List Nat) (i : Nat) : List Nat := (List.range 32).map (pd s i)
theorem pdL_length (s : List Nat) (i : Nat) : (pdL s i).length = 32 := by simp [pdL]
theorem pdL_getD (s : List Nat) (i j : Nat) (hj : j < 32) : (pdL s i).getD j 0 = pd s i j := by
  unfold pdL
  rw [List.getD_eq_getElem?_getD, List.getElem?_map, List.getElem?_range hj]
  rfl
theorem pdL_zero (s : List Nat) : pdL s 0 = List.replicate 32 0 := by
  unfold pdL
  apply List.ext_getElem
  · simp
  · intro t h1 h2
    rw [List.getElem_map, List.getElem_replicate]
    unfold pd
    rw [if_neg (by omega), if_neg (by omega)]
theorem pd_lt (s : List Nat) (i j : Nat) (h : ∀ t, t < i → hv (s.getD t 0) < 16) : pd s i j < 256 := by
  unfold pd
  split
  · have h1 := h (2 * j) (by omega)
    have h2 := h (2 * j + 1) (by omega)
    omega
  · split
    · have h1 := h (2 * j) (by omega)
      omega
    · omega
/-- one digit more -/
theorem pdL_step (s : List Nat) (i : Nat) (hi : i < 64) : (pdL s i).set (i / 2) (if i % 2 = 0 then hv (s.getD i 0) else pd s i (i / 2) * 16 + hv (s.getD i 0)) = pdL s (i + 1) := by
  unfold pdL
  apply List.ext_getElem
  · simp
  · intro t h1 h2
    rw [List.getElem_set]
    simp only [List.length_set, List.length_map, List.length_range] at h1
    by_cases e : i / 2 = t
    · rw [if_pos e]
      simp only [List.getElem_map, List.getElem_range]
      unfold pd
      by_cases h : i % 2 = 0
      · rw [if_pos h, if_neg (by omega), if_pos (by omega), show 2 * t = i from by omega]
      · rw [if_neg h, if_neg (by omega), if_pos (by omega), if_pos (by omega), show i / 2 = t from e, show 2 * t + 1 = i from by omega]
    · rw [if_neg e]
      simp only [List.getElem_map, List.getElem_range]
      unfold pd
      by_cases h : t < i / 2
      · rw [if_pos (by omega), if_pos (by omega)]
      · rw [if_neg (by omega), if_neg (by omega), if_neg (by omega), if_neg (by omega)]
theorem pd_even (s : List Nat) (i : Nat) (h : i % 2 = 0) : pd s i (i / 2) = 0 := by
  unfold pd
  rw [if_neg (by omega), if_neg (by omega)]
theorem pd_odd (s : List Nat) (i : Nat) (h : i % 2 = 1) : pd s i (i / 2) = hv (s.getD (i - 1) 0) := by
  unfold pd
  rw [if_neg (by omega), if_pos (by omega), show 2 * (i / 2) = i - 1 from by omega]
/-- the byte that a round writes -/
def pdX (s : List Nat) (i : Nat) : Nat := if i % 2 = 0 then hv (s.getD i 0) else pd s i (i / 2) * 16 + hv (s.getD i 0)
theorem or16 (a b : Nat) (h : b < 16) : a * 16 ||| b = a * 16 + b := by
  have h1 := Nat.shiftLeft_add_eq_or_of_lt (i := 4) (b := b) (by omega) a
  rw [Nat.shiftLeft_eq] at h1
  exact h1.symm
theorem pdX_or (s : List Nat) (i : Nat) (h : ∀ t, t < i → hv (s.getD t 0) < 16) (hv16 : hv (s.getD i 0) < 16) : (pd s i (i / 2) * 16 % 256) ||| hv (s.getD i 0) = pdX s i ∧ pdX s i < 256 := by
  unfold pdX
  by_cases e : i % 2 = 0
  · rw [if_pos e, pd_even s i e]
    refine ⟨?_, by omega⟩
    show 0 ||| _ = _
    rw [Nat.zero_or]
  · have hp := pd_odd s i (by omega)
    have h1 := h (i - 1) (by omega)
    rw [if_neg e, hp]
    generalize hv (s.getD (i - 1) 0) = a at *
    generalize hv (s.getD i 0) = b at *
    rw [show a * 16 % 256 = a * 16 from by omega, or16 a b hv16]
    exact ⟨rfl, by omega⟩
def phOk (s : List Nat) : Bool := (List.range 64).all fun t => decide (hv (s.getD t 0) < 16)
theorem phOk_iff (s : List Nat) : phOk s = true ↔ ∀ t, t < 64 → hv (s.getD t 0) < 16 := by
  unfold phOk
  simp [List.all_eq_true]
/-- what ParseHex answers: the digest, the error -/
def phR (s : List Nat) : List Nat × Int :=
  if s.length < 64 then (List.replicate 32 0, 4) else if 64 < s.length then (List.replicate 32 0, 3) else if phOk s = true then (pdL s 64, 0) else (List.replicate 32 0, 5)
theorem phR_length (s : List Nat) : (phR s).1.length = 32 := by
  unfold phR
  split
  · simp
  · split
    · simp
    · split
      · exact pdL_length _ _
      · simp
theorem phR_lt (s : List Nat) : ∀ x ∈ (phR s).1, x < 256 := by
  have h0 : ∀ x ∈ List.replicate 32 0, x < 256 := fun x hx => by rw [List.eq_of_mem_replicate hx]; decide
  unfold phR
  split
  · exact h0
  · split
    · exact h0
    · split
      · rename_i h
        intro x hx
        obtain ⟨j, _, rfl⟩ := List.mem_map.1 hx
        exact pd_lt s 64 j ((phOk_iff s).1 h)
      · exact h0
/-- the digits of a digest that was read are the string -/
theorem hexL_pd (s : List Nat) (h : ∀ t, t < 64 → hv (s.getD t 0) < 16) (hl : s.length = 64) : ∀ i, i ≤ 32 → hexL (pdL s 64) i = s.take (2 * i)
  | 0, _ => rfl
  | i + 1, hi => by
    have h1 := h (2 * i) (by omega)
    have h2 := h (2 * i + 1) (by omega)
    show hexL (pdL s 64) i ++ [_, _] = _
    rw [hexL_pd s h hl i (by omega), pdL_getD _ _ _ (by omega)]
    have e : pd s 64 i = hv (s.getD (2 * i) 0) * 16 + hv (s.getD (2 * i + 1) 0) := by unfold pd; rw [if_pos (by omega)]
    rw [e, show (hv (s.getD (2 * i) 0) * 16 + hv (s.getD (2 * i + 1) 0)) / 16 = hv (s.getD (2 * i) 0) from by omega, show (hv (s.getD (2 * i) 0) * 16 + hv (s.getD (2 * i + 1) 0)) % 16 = hv (s.getD (2 * i + 1) 0) from by omega]
    rw [hexD_hv _ h1, hexD_hv _ h2]
    apply List.ext_getElem?
    intro t
    by_cases ht : t < 2 * i
    · rw [List.getElem?_append_left (by simp; omega), List.getElem?_take_of_lt ht, List.getElem?_take_of_lt (by omega)]
    · rw [List.getElem?_append_right (by simp; omega)]
      have hlen : (s.take (2 * i)).length = 2 * i := by simp; omega
      rw [hlen]
      by_cases h3 : t = 2 * i
      · subst h3
        rw [Nat.sub_self, List.getElem?_take_of_lt (by omega), List.getElem?_eq_getElem (show 2 * i < s.length by omega)]
        simp [List.getD_eq_getElem?_getD, List.getElem?_eq_getElem (show 2 * i < s.length by omega)]
      · by_cases h4 : t = 2 * i + 1
        · subst h4
          rw [show 2 * i + 1 - 2 * i = 1 from by omega, List.getElem?_take_of_lt (by omega), List.getElem?_eq_getElem (show 2 * i + 1 < s.length by omega)]
          simp [List.getD_eq_getElem?_getD, List.getElem?_eq_getElem (show 2 * i + 1 < s.length by omega)]
        · rw [List.getElem?_eq_none (by simp; omega), List.getElem?_eq_none (by simp; omega)]
/-- what is read from the digits of a digest is the digest -/
theorem pd_hexL (d : List Nat) (hd : d.length = 32) (hl : ∀ i, d.getD i 0 < 256) : (∀ t, t < 64 → hv ((hexL d 32).getD t 0) < 16) ∧ pdL (hexL d 32) 64 = d := by
  have g : ∀ i j, j < i → (hexL d i).getD (2 * j) 0 = hexD.getD (d.getD j 0 / 16) 0 ∧ (hexL d i).getD (2 * j + 1) 0 = hexD.getD (d.getD j 0 % 16) 0 := by
    intro i
    induction i with
    | zero => intro j hj; omega
    | succ i ih =>
      intro j hj
      show (hexL d i ++ [_, _]).getD _ 0 = _ ∧ (hexL d i ++ [_, _]).getD _ 0 = _
      have hln := hexL_length d i
      by_cases e : j = i
      · subst e
        simp only [List.getD_eq_getElem?_getD]
        rw [List.getElem?_append_right (by omega), List.getElem?_append_right (by omega), hln, Nat.sub_self, show 2 * j + 1 - 2 * j = 1 from by omega]
        exact ⟨rfl, rfl⟩
      · have h1 := ih j (by omega)
        simp only [List.getD_eq_getElem?_getD] at h1 ⊢
        rw [List.getElem?_append_left (by omega), List.getElem?_append_left (by omega)]
        exact h1
  have b1 : ∀ j, j < 32 → hv ((hexL d 32).getD (2 * j) 0) = d.getD j 0 / 16 ∧ hv ((hexL d 32).getD (2 * j + 1) 0) = d.getD j 0 % 16 := fun j hj => by
    have h1 := g 32 j hj
    have h2 := hl j
    rw [h1.1, h1.2]
    exact ⟨hv_hexD _ (by omega), hv_hexD _ (by omega)⟩
  refine ⟨fun t ht => ?_, ?_⟩
  · have h2 := hl (t / 2)
    have h1 := b1 (t / 2) (by omega)
    by_cases e : t % 2 = 0
    · have e1 : t = 2 * (t / 2) := by omega
      rw [e1, h1.1]; omega
    · have e1 : t = 2 * (t / 2) + 1 := by omega
      rw [e1, h1.2]; omega
  · apply List.ext_getElem
    · rw [pdL_length, hd]
    · intro j h1 h2
      have h3 : j < 32 := by rw [pdL_length] at h1; exact h1
      have h4 := pdL_getD (hexL d 32) 64 j h3
      rw [List.getD_eq_getElem?_getD, List.getElem?_eq_getElem h1] at h4
      have h5 : (pdL (hexL d 32) 64)[j]'h1 = pd (hexL d 32) 64 j := h4
      refine h5.trans ?_
      unfold pd
      rw [if_pos (by omega), (b1 j h3).1, (b1 j h3).2]
      have h6 : d.getD j 0 = d[j] := by rw [List.getD_eq_getElem?_getD, List.getElem?_eq_getElem h2]; rfl
      rw [h6]
      omega
end Go.Proofs.YthcgdpedjjhjpaaDoor

namespace Go.Proofs.YthcgdpedjjhjpaaDoor
open Go Go.RowKit
set_option linter.unusedVariables false

/-- the bytes of a string as numbers -/
def nums (S : ByteArray) : List Nat := S.data.toList.map UInt8.toNat
theorem nums_length (S : ByteArray) : (nums S).length = S.size := by simp [nums]
theorem nums_getD (S : ByteArray) (i : Nat) (hi : i < S.size) : (nums S).getD i 0 = S[i].toNat := by
  unfold nums
  rw [List.getD_eq_getElem?_getD, List.getElem?_map, List.getElem?_eq_getElem (by simpa using hi)]
  rfl
theorem nums_lt (S : ByteArray) : ∀ x ∈ nums S, x < 256 := fun x hx => by
  obtain ⟨c, _, rfl⟩ := List.mem_map.1 hx
  exact c.toNat_lt
theorem nums_at (S : ByteArray) (i : Nat) : (nums S).getD i 0 < 256 := by
  rw [List.getD_eq_getElem?_getD]
  by_cases h : i < (nums S).length
  · rw [List.getElem?_eq_getElem h]; exact nums_lt S _ (List.getElem_mem _)
  · rw [List.getElem?_eq_none (by omega)]; decide
theorem results_at2 {fn : Func} {p u : Tmp} {ty : TypeId} (h : fn.results = #[.cell p ty, .tmp u]) {tmps : Array Value} {P : Program} {w : World} {ad : Addr} {v x : Value} (hp : tmps.getD p undef = .pointer (some ad)) (hv : (loadVar ty ad).run P w = .ok v w) (hx : tmps.getD u undef = x) :
    (results fn tmps).run P w = .ok (.tuple #[v, x]) w := by
  rw [results_cell_tmp h, hp, hx]
  simp [asAddr, hv, Result.andThen]
set_option maxRecDepth 100000 in
set_option maxHeartbeats 1000000 in
theorem sIB0 (x : Nat) (hx : x < 256) (w : World) :
    Calls Tryd.prog 134 #[.string ⟨#[48, 49, 50, 51, 52, 53, 54, 55, 56, 57, 97, 98, 99, 100, 101, 102]⟩, .int .u8 (x : Int)] w fun e w' => e = .returned (.int .i64 (hvI x)) ∧ w = w' := by
  have H := hid (hv_index x hx)
  go_enter Tryd.func134, Tryd.ntmps134
  go_wp2
  rw [run_callFunc_extern Tryd.func145 (by kernel_rfl) (by kernel_rfl) (by kernel_rfl) (e := Extern.BytealgIndexByte.indexByte) (by kernel_rfl), Lib.run_indexByteString, H.out]
  simp only [Result.andThen]
  rw [Oper.upon_value]
  go_wp2
  go_ret
  exact ⟨rfl, rfl⟩
set_option maxRecDepth 100000 in
theorem sIB (x : Nat) (hx : x < 256) (w : World) :
    Calls Tryd.prog 109 #[.string ⟨#[48, 49, 50, 51, 52, 53, 54, 55, 56, 57, 97, 98, 99, 100, 101, 102]⟩, .int .u8 (x : Int)] w fun e w' => e = .returned (.int .i64 (hvI x)) ∧ w = w' := by
  go_enter Tryd.func109, Tryd.ntmps109
  go_wp2_with fail
  refine (sIB0 x hx w).mono ?_
  rintro e w' ⟨rfl, rfl⟩
  go_wp2
  go_ret
  exact ⟨rfl, rfl⟩

set_option maxRecDepth 100000 in
set_option maxHeartbeats 2000000 in
theorem ParseHex_any (S : ByteArray) (hS : S.size ≤ 100000) (w : World) :
    Calls Tryd.prog 70 #[.string S] w fun e w' => e = .returned (.tuple #[.agg (u8s (phR (nums S)).1).toArray, .int .i64 (phR (nums S)).2]) ∧ Below w.heap.size w w' := by
  have hlen := nums_length S
  have HLEN := hid (fun (_ : Unit) => hlen)
  have HLT := hid (nums_at S)
  obtain ⟨w2, hw2⟩ : ∃ w2, w2 = (w.alloc (.cells (u8s (List.replicate 32 0)).toArray 52)).alloc (.cells (u8s (List.replicate 32 0)).toArray 52) := ⟨_, rfl⟩
  have HB2 := hid (show Below w.heap.size w w2 from by rw [hw2]; exact ((Below.refl _ _).alloc (Nat.le_refl _) _).alloc (by simp) _)
  have HD2 := hid (show OwnD w2 (w.heap.size + 1) (pdL (nums S) 0) from by
    have h5 := heap_new (w.alloc (.cells (u8s (List.replicate 32 0)).toArray 52)) (.cells (u8s (List.replicate 32 0)).toArray 52)
    rw [World.size_alloc] at h5
    rw [hw2, pdL_zero]
    exact h5)
  have HR2 := hid (show OwnD w2 w.heap.size (List.replicate 32 0) from by rw [hw2]; exact heap_alloc (heap_new _ _) _)
  have HIF := hid (fun (l : List Nat) (h : l.length = 32) => (show (Tryd.prog.info? 52).map (·.size) = some (u8s l).toArray.size from by rw [List.size_toArray, show (u8s l).length = 32 from by simp [u8s, h]]; kernel_rfl))
  have HIFL := hid (fun (l : List Nat) (h : l.length = 32) => (show (Tryd.prog.info? 52).map (·.size) = some (u8s l).length from by rw [show (u8s l).length = 32 from by simp [u8s, h]]; kernel_rfl))
  have HOLD := hid (fun (l : List Nat) (h : l.length = 32) => (show (u8s (List.replicate 32 0)).toArray.size = (u8s l).toArray.size from by rw [List.size_toArray, List.size_toArray]; simp [u8s, h]))
  have HONE := hid (fun (l : List Nat) => (show (u8s l).toArray.all (·.oneCell') = true from all_oneCell_toArray (u8s_oneH _)))
  clear hlen
  go_enter Tryd.func70, Tryd.ntmps70
  go_upto_region 2 with fail
  change Code.wp _ _ _ _ ((w.alloc (.cells (u8s (List.replicate 32 0)).toArray 52)).alloc (.cells (u8s (List.replicate 32 0)).toArray 52))
  rw [← hw2]
  clear hw2
  by_cases h1 : S.size < 64
  · have hI : (S.size : Int) < 64 := by omega
    have HE := hid (show phR (nums S) = (List.replicate 32 0, 4) from by unfold phR; rw [HLEN.out (), if_pos h1])
    go_wp2_with (refine wpList_store_row (by rfl) 52 (.tmp 2) (.tmp 10) (by rfl) w.heap.size _ (u8s (List.replicate 32 0)).toArray _ (by rfl) (by rfl) HR2.out (HIF.out _ (List.length_replicate ..)) rfl (HONE.out _) ?_
                 intro w8 hw8 hk8)
    have hres : (loadVar 52 ⟨w.heap.size, 0, none⟩).run Tryd.prog w8 = .ok (.agg (u8s (List.replicate 32 0)).toArray) w8 := run_loadVar_row _ _ 52 52 _ (0, 0) _ hw8 Tryd.underlying52 rfl (HIF.out _ (List.length_replicate ..))
    refine bodyPost_ret (v := .tuple #[.agg (u8s (List.replicate 32 0)).toArray, .int .i64 4]) (results_at2 Tryd.results70 rfl hres rfl) rfl ⟨?_, HB2.out.trans (hk8.below HB2.out.size (Nat.le_refl _))⟩
    rw [HE.out]
  by_cases h2 : 64 < S.size
  · have hI : 64 < (S.size : Int) := by omega
    have HE := hid (show phR (nums S) = (List.replicate 32 0, 3) from by unfold phR; rw [HLEN.out (), if_neg h1, if_pos h2])
    go_wp2_with (refine wpList_store_row (by rfl) 52 (.tmp 2) (.tmp 14) (by rfl) w.heap.size _ (u8s (List.replicate 32 0)).toArray _ (by rfl) (by rfl) HR2.out (HIF.out _ (List.length_replicate ..)) rfl (HONE.out _) ?_
                 intro w8 hw8 hk8)
    have hres : (loadVar 52 ⟨w.heap.size, 0, none⟩).run Tryd.prog w8 = .ok (.agg (u8s (List.replicate 32 0)).toArray) w8 := run_loadVar_row _ _ 52 52 _ (0, 0) _ hw8 Tryd.underlying52 rfl (HIF.out _ (List.length_replicate ..))
    refine bodyPost_ret (v := .tuple #[.agg (u8s (List.replicate 32 0)).toArray, .int .i64 3]) (results_at2 Tryd.results70 rfl hres rfl) rfl ⟨?_, HB2.out.trans (hk8.below HB2.out.size (Nat.le_refl _))⟩
    rw [HE.out]
  have h64 : S.size = 64 := by omega
  have hI1 : ¬ (S.size : Int) < 64 := by omega
  have hI2 : ¬ 64 < (S.size : Int) := by omega
  have HP := hid (show phR (nums S) = if phOk (nums S) = true then (pdL (nums S) 64, 0) else (List.replicate 32 0, 5) from by unfold phR; rw [HLEN.out (), if_neg h1, if_neg h2])
  have HIX := hid (show ∀ i : Nat, i < 64 → ∀ w, (Instr.index 9 (.string S) (.int .i64 (i : Int))).run Tryd.prog w = .ok (.int .u8 (((nums S).getD i 0 : Nat) : Int)) w from fun i hi w => by
    rw [run_index_string w 9 _ .i64 (i : Int) Tryd.underlying9, dif_pos ⟨by omega, by omega⟩, nums_getD S i (by omega)]
    rfl)
  clear h1 h2
  generalize hs : nums S = s at *
  have HS := hid (fun (_ : Unit) => hs)
  clear hs hI1 hI2
  go_wp2
  go_loopw [17] (fun iv wr => ∃ i : Nat, i ≤ 64 ∧ iv = .int .i64 i ∧ Hid (OwnD wr (w.heap.size + 1) (pdL s i)) ∧ Hid (OwnD wr w.heap.size (List.replicate 32 0)) ∧ Hid (Below w.heap.size w wr) ∧ Hid (∀ t, t < i → hv (s.getD t 0) < 16)) (fun iv _ => 64 - (intOf iv).toNat)
  case atStart => exact ⟨0, by omega, rfl, HD2, HR2, HB2, hid (fun t ht => absurd ht (Nat.not_lt_zero _))⟩
  case round =>
    clear HD2 HR2 HB2
    obtain ⟨i, hi, rfl, HD, HR, HB, HH⟩ := hrel
    by_cases hi64 : i < 64
    · have hI : (i : Int) < 64 := by omega
      have hix := HIX.out i hi64
      have hx := HLT.out i
      have HIB := hid (sIB (s.getD i 0) hx)
      by_cases hv16 : hv (s.getD i 0) < 16
      · have hpx := pdX_or s i HH.out hv16
        have hst := pdL_step s i hi64
        have hc := HD.out
        have HV := hid (show hvI (s.getD i 0) = (hv (s.getD i 0) : Int) from by unfold hvI; rw [if_pos hv16])
        have HH2 := hid (show ∀ t, t < i + 1 → hv (s.getD t 0) < 16 from fun t ht => by
          by_cases e : t = i
          · rw [e]; exact hv16
          · exact HH.out t (by omega))
        obtain ⟨p, hp⟩ : ∃ p, p = i / 2 := ⟨_, rfl⟩
        have c1 : wr.cell? ⟨w.heap.size + 1, p, none⟩ = some (.int .u8 ((pd s i (i / 2) : Nat) : Int)) := by
          rw [cell_of_heap HD.out, List.getElem?_toArray, hp]
          have h9 : i / 2 < 32 := by omega
          have h8 : (pdL s i)[i / 2]? = some (pd s i (i / 2)) := by
            unfold pdL
            rw [List.getElem?_map, List.getElem?_range h9]
            rfl
          unfold u8s
          rw [List.getElem?_map, h8]
          rfl
        have f1 : wr.frozen? ⟨w.heap.size + 1, p, none⟩ = false := free_of_heap HD.out p
        have hpl := pd_lt s i (i / 2) HH.out
        have HST2 := hid (show OwnD (wr.setCell ⟨w.heap.size + 1, p, none⟩ (.int .u8 ((pdX s i : Nat) : Int))) (w.heap.size + 1) (pdL s (i + 1)) from by
          have h1 := heap_set HD.out p (.int .u8 ((pdX s i : Nat) : Int))
          show _ = _
          rw [h1, ← hst, hp]
          simp only [List.setIfInBounds_toArray, u8s, List.map_set]
          rfl)
        have HR3 := hid (show OwnD (wr.setCell ⟨w.heap.size + 1, p, none⟩ (.int .u8 ((pdX s i : Nat) : Int))) w.heap.size (List.replicate 32 0) from (Below.heap_setCell _ _ _ _ (show w.heap.size ≠ w.heap.size + 1 by omega)).trans HR.out)
        have HB3 := hid (show Below w.heap.size w (wr.setCell ⟨w.heap.size + 1, p, none⟩ (.int .u8 ((pdX s i : Nat) : Int))) from HB.out.setCell (by simp) _)
        have k1 : (i : Int) / 2 = (p : Int) := by omega
        have k2 : (i : Int).tdiv 2 = (p : Int) := by rw [Int.tdiv_eq_ediv_of_nonneg (by omega)]; omega
        have k3 : (p : Int) < 32 := by omega
        have k4 : p < 32 := by omega
        have HPX := hid hpx
        clear hst hc hpx hp
        generalize pd s i (i / 2) = y at *
        generalize hv (s.getD i 0) = v at *
        generalize pdX s i = z at *
        generalize s.getD i 0 = x at *
        obtain ⟨ys, hys⟩ : ∃ ys, ys = y * 16 % 256 := ⟨_, rfl⟩
        have j1 : IntKind.u8.wrap ((y : Int) * 16) = (ys : Int) := by rw [IntKind.wrap_u8]; omega
        have j2 : IntKind.u8.wrap (v : Int) = (v : Int) := by rw [IntKind.wrap_u8]; omega
        have hysl : ys < 256 := by omega
        have j3 : bits .or .u8 (ys : Int) (v : Int) = (z : Int) := by
          have h := u8_or_nat ys v hysl (by omega)
          have e := HPX.out.1
          rw [← hys] at e
          rw [e] at h
          exact h
        have hzl := HPX.out.2
        clear hys
        go_wp2_with fail
        refine (HIB.out _).mono ?_
        rw [HV.out]
        rintro e w5 ⟨rfl, rfl⟩
        clear HIB
        go_wp2
        exact ⟨⟨i + 1, by omega, by go_num, HST2, HR3, HB3, HH2⟩, by simp [intOf]; omega⟩
      · have HV := hid (show hvI (s.getD i 0) = -1 from by unfold hvI; rw [if_neg hv16])
        have HE := hid (show phR s = (List.replicate 32 0, 5) from by
          rw [HP.out, if_neg (fun h => hv16 ((phOk_iff s).1 h i hi64))])
        generalize s.getD i 0 = x at *
        go_wp2_with fail
        refine (HIB.out _).mono ?_
        rw [HV.out]
        rintro e w5 ⟨rfl, rfl⟩
        clear HIB
        go_wp2_with (refine wpList_store_row (by rfl) 52 (.tmp 2) (.tmp 26) (by rfl) w.heap.size _ (u8s (List.replicate 32 0)).toArray _ (by rfl) (by rfl) HR.out (HIF.out _ (List.length_replicate ..)) rfl (HONE.out _) ?_
                     intro w8 hw8 hk8)
        have hres : (loadVar 52 ⟨w.heap.size, 0, none⟩).run Tryd.prog w8 = .ok (.agg (u8s (List.replicate 32 0)).toArray) w8 := run_loadVar_row _ _ 52 52 _ (0, 0) _ hw8 Tryd.underlying52 rfl (HIF.out _ (List.length_replicate ..))
        refine bodyPost_ret (v := .tuple #[.agg (u8s (List.replicate 32 0)).toArray, .int .i64 5]) (results_at2 Tryd.results70 rfl hres rfl) rfl ⟨?_, HB.out.trans (hk8.below HB.out.size (Nat.le_refl _))⟩
        rw [HS.out (), HE.out]
    · obtain rfl : i = 64 := by omega
      have HE := hid (show phR s = (pdL s 64, 0) from by rw [HP.out, if_pos ((phOk_iff s).2 HH.out)])
      have hpl := pdL_length s 64
      have HRA := hid (show wr.rangeAt (w.heap.size + 1) 0 (u8s (pdL s 64)) from fun j v hj => by
        rw [Nat.zero_add, cell_of_heap HD.out, List.getElem?_toArray]
        exact hj)
      generalize pdL s 64 = D at *
      have hI : ¬ (((64 : Nat) : Int) < 64) := by omega
      go_wp2_with (first
        | (refine wpList_load_mid (by rfl) 52 (.tmp 4) (by rfl) (w.heap.size + 1) 0 (by rfl) (u8s D) _ HRA.out Tryd.underlying52 rfl (HIFL.out D hpl) ?_)
        | (refine wpList_store_row (by rfl) 52 (.tmp 2) (.tmp 39) (by rfl) w.heap.size _ (u8s D).toArray _ (by rfl) (by rfl) HR.out (HIF.out D hpl) (HOLD.out D hpl) (HONE.out D) ?_
           intro w8 hw8 hk8))
      have hres : (loadVar 52 ⟨w.heap.size, 0, none⟩).run Tryd.prog w8 = .ok (.agg (u8s D).toArray) w8 := run_loadVar_row _ _ 52 52 _ (0, 0) _ hw8 Tryd.underlying52 rfl (HIF.out D hpl)
      refine bodyPost_ret (v := .tuple #[.agg (u8s D).toArray, .int .i64 0]) (results_at2 Tryd.results70 rfl hres rfl) rfl ⟨?_, HB.out.trans (hk8.below HB.out.size (Nat.le_refl _))⟩
      rw [HS.out (), HE.out]
end Go.Proofs.YthcgdpedjjhjpaaDoor

namespace Go.Proofs.YthcgdpedjjhjpaaDoor
open Go Go.RowKit
set_option linter.unusedVariables false

theorem range_of_heapD {w : World} {b : Nat} {cs : List Value} {T : TypeId} (h : w.heap[b]? = some (.cells cs.toArray T (0, 0))) : w.rangeAt b 0 cs := fun j v hj => by
  rw [Nat.zero_add, cell_of_heap h, List.getElem?_toArray]
  exact hj
theorem hex_at2 (k : Nat) (hk : k < 16) (w : World) : (Instr.index 9 (.string ⟨#[48, 49, 50, 51, 52, 53, 54, 55, 56, 57, 97, 98, 99, 100, 101, 102]⟩) (.int .i64 (k : Int))).run Tryd.prog w = .ok (.int .u8 ((hexD.getD k 0 : Nat) : Int)) w := by
  have hsz : (⟨#[48, 49, 50, 51, 52, 53, 54, 55, 56, 57, 97, 98, 99, 100, 101, 102]⟩ : ByteArray).size = 16 := rfl
  rw [run_index_string w 9 _ .i64 (k : Int) Tryd.underlying9, dif_pos ⟨by omega, by rw [hsz]; omega⟩]
  have h16 : ∀ q : Fin 16, ((⟨#[48, 49, 50, 51, 52, 53, 54, 55, 56, 57, 97, 98, 99, 100, 101, 102]⟩ : ByteArray)[q.val]'(q.isLt)).toNat = hexD.getD q.val 0 := by decide
  exact congrArg (fun z : Nat => Result.ok (Value.int .u8 (z : Int)) w) (h16 ⟨k, hk⟩)
set_option maxRecDepth 100000 in
set_option maxHeartbeats 1000000 in
theorem digit_any (x : Nat) (hx : x < 256) (w : World) :
    Calls Tryd.prog 110 #[.int .u8 (x : Int)] w fun e w' => e = .returned (.int .i64 (hvI x)) ∧ w = w' := by
  go_enter Tryd.func110, Tryd.ntmps110
  go_wp2
  go_loop [3] (fun iv => ∃ i : Nat, i ≤ 16 ∧ iv = .int .i64 i ∧ Hid (∀ j, j < i → hexD.getD j 0 ≠ x)) (fun iv => 16 - (intOf iv).toNat)
  case atStart => exact ⟨0, by omega, rfl, hid (fun j hj => absurd hj (Nat.not_lt_zero _))⟩
  case round =>
    obtain ⟨i, hi, rfl, HH⟩ := hrel
    by_cases h16 : i < 16
    · have hI : (i : Int) < 16 := by omega
      have hix := fun w => hex_at2 i h16 w
      by_cases he : hexD.getD i 0 = x
      · have HV := hid (show hvI x = (i : Int) from by
          have h := hv_hexD i h16
          rw [he] at h
          unfold hvI
          rw [h, if_pos h16])
        have g1 : (((hexD.getD i 0 : Nat) : Int) == (x : Int)) = true := by rw [he]; simp
        generalize hexD.getD i 0 = y at *
        clear he
        go_wp2
        go_ret
        exact ⟨by rw [HV.out]; rfl, rfl⟩
      · have g1 : (((hexD.getD i 0 : Nat) : Int) == (x : Int)) = false := by rw [beq_eq_false_iff_ne]; omega
        have HH2 := hid (show ∀ j, j < i + 1 → hexD.getD j 0 ≠ x from fun j hj => by
          by_cases e : j = i
          · rw [e]; exact he
          · exact HH.out j (by omega))
        generalize hexD.getD i 0 = y at *
        clear he
        go_wp2
        exact ⟨⟨i + 1, by omega, by go_num, HH2⟩, by simp [intOf]; omega⟩
    · obtain rfl : i = 16 := by omega
      have HV := hid (show hvI x = -1 from by
        unfold hvI
        by_cases h : hv x < 16
        · exact absurd (hexD_hv x h) (HH.out _ h)
        · rw [if_neg h])
      go_wp2
      go_ret
      exact ⟨by rw [HV.out]; rfl, rfl⟩

set_option maxRecDepth 100000 in
set_option maxHeartbeats 2000000 in
theorem OfDigits_any (S : ByteArray) (hS : S.size ≤ 100000) (w : World) :
    Calls Tryd.prog 71 #[.string S] w fun e w' => e = .returned (.tuple #[.agg (u8s (phR (nums S)).1).toArray, .int .i64 (phR (nums S)).2]) ∧ Below w.heap.size w w' := by
  have hlen := nums_length S
  have HLEN := hid (fun (_ : Unit) => hlen)
  have HLT := hid (nums_at S)
  obtain ⟨w2, hw2⟩ : ∃ w2, w2 = (w.alloc (.cells (u8s (List.replicate 32 0)).toArray 52)).alloc (.cells (u8s (List.replicate 32 0)).toArray 52) := ⟨_, rfl⟩
  have HB2 := hid (show Below w.heap.size w w2 from by rw [hw2]; exact ((Below.refl _ _).alloc (Nat.le_refl _) _).alloc (by simp) _)
  have HD2 := hid (show OwnD w2 (w.heap.size + 1) (pdL (nums S) 0) from by
    have h5 := heap_new (w.alloc (.cells (u8s (List.replicate 32 0)).toArray 52)) (.cells (u8s (List.replicate 32 0)).toArray 52)
    rw [World.size_alloc] at h5
    rw [hw2, pdL_zero]
    exact h5)
  have HR2 := hid (show OwnD w2 w.heap.size (List.replicate 32 0) from by rw [hw2]; exact heap_alloc (heap_new _ _) _)
  have HIF := hid (fun (l : List Nat) (h : l.length = 32) => (show (Tryd.prog.info? 52).map (·.size) = some (u8s l).toArray.size from by rw [List.size_toArray, show (u8s l).length = 32 from by simp [u8s, h]]; kernel_rfl))
  have HIFL := hid (fun (l : List Nat) (h : l.length = 32) => (show (Tryd.prog.info? 52).map (·.size) = some (u8s l).length from by rw [show (u8s l).length = 32 from by simp [u8s, h]]; kernel_rfl))
  have HOLD := hid (fun (l : List Nat) (h : l.length = 32) => (show (u8s (List.replicate 32 0)).toArray.size = (u8s l).toArray.size from by rw [List.size_toArray, List.size_toArray]; simp [u8s, h]))
  have HONE := hid (fun (l : List Nat) => (show (u8s l).toArray.all (·.oneCell') = true from all_oneCell_toArray (u8s_oneH _)))
  clear hlen
  have HZR := hid (show w2.rangeAt (w.heap.size + 1) 0 (u8s (List.replicate 32 0)) from range_of_heapD (by have h := HD2.out; rw [pdL_zero] at h; exact h))
  go_enter Tryd.func71, Tryd.ntmps71
  go_upto_region 2 with fail
  change Code.wp _ _ _ _ ((w.alloc (.cells (u8s (List.replicate 32 0)).toArray 52)).alloc (.cells (u8s (List.replicate 32 0)).toArray 52))
  rw [← hw2]
  clear hw2
  by_cases h1 : S.size < 64
  · have hI : (S.size : Int) < 64 := by omega
    have HE := hid (show phR (nums S) = (List.replicate 32 0, 4) from by unfold phR; rw [HLEN.out (), if_pos h1])
    go_wp2_with (first
      | (refine wpList_load_mid (by rfl) 52 (.tmp 4) (by rfl) (w.heap.size + 1) 0 (by rfl) (u8s (List.replicate 32 0)) _ HZR.out Tryd.underlying52 rfl (HIFL.out _ (List.length_replicate ..)) ?_)
      | (refine wpList_store_row (by rfl) 52 (.tmp 2) (.tmp 10) (by rfl) w.heap.size _ (u8s (List.replicate 32 0)).toArray _ (by rfl) (by rfl) HR2.out (HIF.out _ (List.length_replicate ..)) rfl (HONE.out _) ?_
         intro w8 hw8 hk8))
    have hres : (loadVar 52 ⟨w.heap.size, 0, none⟩).run Tryd.prog w8 = .ok (.agg (u8s (List.replicate 32 0)).toArray) w8 := run_loadVar_row _ _ 52 52 _ (0, 0) _ hw8 Tryd.underlying52 rfl (HIF.out _ (List.length_replicate ..))
    refine bodyPost_ret (v := .tuple #[.agg (u8s (List.replicate 32 0)).toArray, .int .i64 4]) (results_at2 Tryd.results71 rfl hres rfl) rfl ⟨?_, HB2.out.trans (hk8.below HB2.out.size (Nat.le_refl _))⟩
    rw [HE.out]
  by_cases h2 : 64 < S.size
  · have hI : 64 < (S.size : Int) := by omega
    have HE := hid (show phR (nums S) = (List.replicate 32 0, 3) from by unfold phR; rw [HLEN.out (), if_neg h1, if_pos h2])
    go_wp2_with (first
      | (refine wpList_load_mid (by rfl) 52 (.tmp 4) (by rfl) (w.heap.size + 1) 0 (by rfl) (u8s (List.replicate 32 0)) _ HZR.out Tryd.underlying52 rfl (HIFL.out _ (List.length_replicate ..)) ?_)
      | (refine wpList_store_row (by rfl) 52 (.tmp 2) (.tmp 14) (by rfl) w.heap.size _ (u8s (List.replicate 32 0)).toArray _ (by rfl) (by rfl) HR2.out (HIF.out _ (List.length_replicate ..)) rfl (HONE.out _) ?_
         intro w8 hw8 hk8))
    have hres : (loadVar 52 ⟨w.heap.size, 0, none⟩).run Tryd.prog w8 = .ok (.agg (u8s (List.replicate 32 0)).toArray) w8 := run_loadVar_row _ _ 52 52 _ (0, 0) _ hw8 Tryd.underlying52 rfl (HIF.out _ (List.length_replicate ..))
    refine bodyPost_ret (v := .tuple #[.agg (u8s (List.replicate 32 0)).toArray, .int .i64 3]) (results_at2 Tryd.results71 rfl hres rfl) rfl ⟨?_, HB2.out.trans (hk8.below HB2.out.size (Nat.le_refl _))⟩
    rw [HE.out]
  have h64 : S.size = 64 := by omega
  have hI1 : ¬ (S.size : Int) < 64 := by omega
  have hI2 : ¬ 64 < (S.size : Int) := by omega
  have HP := hid (show phR (nums S) = if phOk (nums S) = true then (pdL (nums S) 64, 0) else (List.replicate 32 0, 5) from by unfold phR; rw [HLEN.out (), if_neg h1, if_neg h2])
  have HIX := hid (show ∀ i : Nat, i < 64 → ∀ w, (Instr.index 9 (.string S) (.int .i64 (i : Int))).run Tryd.prog w = .ok (.int .u8 (((nums S).getD i 0 : Nat) : Int)) w from fun i hi w => by
    rw [run_index_string w 9 _ .i64 (i : Int) Tryd.underlying9, dif_pos ⟨by omega, by omega⟩, nums_getD S i (by omega)]
    rfl)
  clear h1 h2
  generalize hs : nums S = s at *
  have HS := hid (fun (_ : Unit) => hs)
  clear hs hI1 hI2
  go_wp2
  go_loopw [5] (fun iv wr => ∃ i : Nat, i ≤ 64 ∧ iv = .int .i64 i ∧ Hid (OwnD wr (w.heap.size + 1) (pdL s i)) ∧ Hid (OwnD wr w.heap.size (List.replicate 32 0)) ∧ Hid (Below w.heap.size w wr) ∧ Hid (∀ t, t < i → hv (s.getD t 0) < 16)) (fun iv _ => 64 - (intOf iv).toNat)
  case atStart => exact ⟨0, by omega, rfl, HD2, HR2, HB2, hid (fun t ht => absurd ht (Nat.not_lt_zero _))⟩
  case round =>
    clear HD2 HR2 HB2
    obtain ⟨i, hi, rfl, HD, HR, HB, HH⟩ := hrel
    by_cases hi64 : i < 64
    · have hI : (i : Int) < 64 := by omega
      have hix := HIX.out i hi64
      have hx := HLT.out i
      have HIB := hid (digit_any (s.getD i 0) hx)
      by_cases hv16 : hv (s.getD i 0) < 16
      · have hpx := pdX_or s i HH.out hv16
        have hst := pdL_step s i hi64
        have hc := HD.out
        have HV := hid (show hvI (s.getD i 0) = (hv (s.getD i 0) : Int) from by unfold hvI; rw [if_pos hv16])
        have HH2 := hid (show ∀ t, t < i + 1 → hv (s.getD t 0) < 16 from fun t ht => by
          by_cases e : t = i
          · rw [e]; exact hv16
          · exact HH.out t (by omega))
        obtain ⟨p, hp⟩ : ∃ p, p = i / 2 := ⟨_, rfl⟩
        have c1 : wr.cell? ⟨w.heap.size + 1, p, none⟩ = some (.int .u8 ((pd s i (i / 2) : Nat) : Int)) := by
          rw [cell_of_heap HD.out, List.getElem?_toArray, hp]
          have h9 : i / 2 < 32 := by omega
          have h8 : (pdL s i)[i / 2]? = some (pd s i (i / 2)) := by
            unfold pdL
            rw [List.getElem?_map, List.getElem?_range h9]
            rfl
          unfold u8s
          rw [List.getElem?_map, h8]
          rfl
        have f1 : wr.frozen? ⟨w.heap.size + 1, p, none⟩ = false := free_of_heap HD.out p
        have hpl := pd_lt s i (i / 2) HH.out
        have HST2 := hid (show OwnD (wr.setCell ⟨w.heap.size + 1, p, none⟩ (.int .u8 ((pdX s i : Nat) : Int))) (w.heap.size + 1) (pdL s (i + 1)) from by
          have h1 := heap_set HD.out p (.int .u8 ((pdX s i : Nat) : Int))
          show _ = _
          rw [h1, ← hst, hp]
          simp only [List.setIfInBounds_toArray, u8s, List.map_set]
          rfl)
        have HR3 := hid (show OwnD (wr.setCell ⟨w.heap.size + 1, p, none⟩ (.int .u8 ((pdX s i : Nat) : Int))) w.heap.size (List.replicate 32 0) from (Below.heap_setCell _ _ _ _ (show w.heap.size ≠ w.heap.size + 1 by omega)).trans HR.out)
        have HB3 := hid (show Below w.heap.size w (wr.setCell ⟨w.heap.size + 1, p, none⟩ (.int .u8 ((pdX s i : Nat) : Int))) from HB.out.setCell (by simp) _)
        have k1 : (i : Int) / 2 = (p : Int) := by omega
        have k2 : (i : Int).tdiv 2 = (p : Int) := by rw [Int.tdiv_eq_ediv_of_nonneg (by omega)]; omega
        have k3 : (p : Int) < 32 := by omega
        have k4 : p < 32 := by omega
        have HPX := hid hpx
        clear hst hc hpx hp
        generalize pd s i (i / 2) = y at *
        generalize hv (s.getD i 0) = v at *
        generalize pdX s i = z at *
        generalize s.getD i 0 = x at *
        obtain ⟨ys, hys⟩ : ∃ ys, ys = y * 16 % 256 := ⟨_, rfl⟩
        have j1 : IntKind.u8.wrap ((y : Int) * 16) = (ys : Int) := by rw [IntKind.wrap_u8]; omega
        have j2 : IntKind.u8.wrap (v : Int) = (v : Int) := by rw [IntKind.wrap_u8]; omega
        have hysl : ys < 256 := by omega
        have j3 : bits .or .u8 (ys : Int) (v : Int) = (z : Int) := by
          have h := u8_or_nat ys v hysl (by omega)
          have e := HPX.out.1
          rw [← hys] at e
          rw [e] at h
          exact h
        have hzl := HPX.out.2
        clear hys
        go_wp2_with fail
        refine (HIB.out _).mono ?_
        rw [HV.out]
        rintro e w5 ⟨rfl, rfl⟩
        clear HIB
        go_wp2
        exact ⟨⟨i + 1, by omega, by go_num, HST2, HR3, HB3, HH2⟩, by simp [intOf]; omega⟩
      · have HV := hid (show hvI (s.getD i 0) = -1 from by unfold hvI; rw [if_neg hv16])
        have HE := hid (show phR s = (List.replicate 32 0, 5) from by
          rw [HP.out, if_neg (fun h => hv16 ((phOk_iff s).1 h i hi64))])
        generalize s.getD i 0 = x at *
        go_wp2_with fail
        refine (HIB.out _).mono ?_
        rw [HV.out]
        rintro e w5 ⟨rfl, rfl⟩
        clear HIB
        go_wp2_with (refine wpList_store_row (by rfl) 52 (.tmp 2) (.tmp 25) (by rfl) w.heap.size _ (u8s (List.replicate 32 0)).toArray _ (by rfl) (by rfl) HR.out (HIF.out _ (List.length_replicate ..)) rfl (HONE.out _) ?_
                     intro w8 hw8 hk8)
        have hres : (loadVar 52 ⟨w.heap.size, 0, none⟩).run Tryd.prog w8 = .ok (.agg (u8s (List.replicate 32 0)).toArray) w8 := run_loadVar_row _ _ 52 52 _ (0, 0) _ hw8 Tryd.underlying52 rfl (HIF.out _ (List.length_replicate ..))
        refine bodyPost_ret (v := .tuple #[.agg (u8s (List.replicate 32 0)).toArray, .int .i64 5]) (results_at2 Tryd.results71 rfl hres rfl) rfl ⟨?_, HB.out.trans (hk8.below HB.out.size (Nat.le_refl _))⟩
        rw [HS.out (), HE.out]
    · obtain rfl : i = 64 := by omega
      have HE := hid (show phR s = (pdL s 64, 0) from by rw [HP.out, if_pos ((phOk_iff s).2 HH.out)])
      have hpl := pdL_length s 64
      have HRA := hid (show wr.rangeAt (w.heap.size + 1) 0 (u8s (pdL s 64)) from fun j v hj => by
        rw [Nat.zero_add, cell_of_heap HD.out, List.getElem?_toArray]
        exact hj)
      generalize pdL s 64 = D at *
      have hI : ¬ (((64 : Nat) : Int) < 64) := by omega
      go_wp2_with (first
        | (refine wpList_load_mid (by rfl) 52 (.tmp 4) (by rfl) (w.heap.size + 1) 0 (by rfl) (u8s D) _ HRA.out Tryd.underlying52 rfl (HIFL.out D hpl) ?_)
        | (refine wpList_store_row (by rfl) 52 (.tmp 2) (.tmp 37) (by rfl) w.heap.size _ (u8s D).toArray _ (by rfl) (by rfl) HR.out (HIF.out D hpl) (HOLD.out D hpl) (HONE.out D) ?_
           intro w8 hw8 hk8))
      have hres : (loadVar 52 ⟨w.heap.size, 0, none⟩).run Tryd.prog w8 = .ok (.agg (u8s D).toArray) w8 := run_loadVar_row _ _ 52 52 _ (0, 0) _ hw8 Tryd.underlying52 rfl (HIF.out D hpl)
      refine bodyPost_ret (v := .tuple #[.agg (u8s D).toArray, .int .i64 0]) (results_at2 Tryd.results71 rfl hres rfl) rfl ⟨?_, HB.out.trans (hk8.below HB.out.size (Nat.le_refl _))⟩
      rw [HS.out (), HE.out]
end Go.Proofs.YthcgdpedjjhjpaaDoor
