/-
  The reference's Join: the object that pieces determine; its errors.
-/
import Derived.Test.YtbajekiliplclaaRVal
import Derived.Test.YtbajekiliplclaaRChk
namespace Go.Proofs.Ytbajekiliplclaa
open Go Go.RowKit
set_option linter.unusedVariables false

theorem Join_size (k t size : Int) (a : Option Addr) (n c : Nat) (h : ¬ (1 ≤ k ∧ k ≤ t ∧ t ≤ 255 ∧ 0 ≤ size ∧ size ≤ 8192)) (w : World) :
    Calls Try.prog 36 #[.int .i64 k, .int .i64 t, .int .i64 size, .slice a n c] w fun e w' => e = .returned (.tuple #[.slice none 0 0, .int .i64 2]) ∧ w = w' := by
  have hnot : ∀ (x : Bool) (w : World), (Op.unary .not (.bool x)).run Try.prog w = .ok (.bool (!x)) w := fun _ _ => rfl
  by_cases h1 : 1 ≤ k ∧ k ≤ t ∧ t ≤ 255
  · obtain ⟨a1, a2, a3⟩ := h1
    by_cases h2 : size < 0
    · have b1 : decide (size < 0) = true := by simpa using h2
      clear h
      go_enter Try.func36, Try.ntmps36
      go_wp2_with fail
      refine (rsizes_yes k t a1 a2 a3 _).mono ?_
      rintro e w' ⟨rfl, rfl⟩
      go_wp2
      go_ret2
      exact ⟨rfl, rfl⟩
    · have b1 : decide (size < 0) = false := by simp; omega
      have b2 : decide ((8192 : Int) < size) = true := by simp; omega
      clear h
      go_enter Try.func36, Try.ntmps36
      go_wp2_with fail
      refine (rsizes_yes k t a1 a2 a3 _).mono ?_
      rintro e w' ⟨rfl, rfl⟩
      go_wp2
      go_ret2
      exact ⟨rfl, rfl⟩
  · have H := hid h1
    clear h h1
    go_enter Try.func36, Try.ntmps36
    go_wp2_with fail
    refine (rsizes_no k t H.out _).mono ?_
    rintro e w' ⟨rfl, rfl⟩
    go_wp2
    go_ret2
    exact ⟨rfl, rfl⟩

theorem Join_err (k t size : Nat) (a : Option Addr) (n c : Nat) (ps : List (Int × Sl)) (h1 : 1 ≤ k) (h2 : k ≤ t) (h3 : t ≤ 255) (h4 : size ≤ 8192) (hn : n ≤ 100000) (w : World) (hp : Ps w (.slice a n c) ps)
    (hne : chkAll k t (pidx ps) (fun i => if ((plen' ps i : Nat) : Int) = (plen k size : Nat) then 0 else 10) n ≠ 0) :
    Calls Try.prog 36 #[.int .i64 k, .int .i64 t, .int .i64 size, .slice a n c] w fun e w' => e = .returned (.tuple #[.slice none 0 0, .int .i64 (chkAll k t (pidx ps) (fun i => if ((plen' ps i : Nat) : Int) = (plen k size : Nat) then 0 else 10) n)]) ∧ Below w.heap.size w w' := by
  have hnot : ∀ (x : Bool) (w : World), (Op.unary .not (.bool x)).run Try.prog w = .ok (.bool (!x)) w := fun _ _ => rfl
  have bn : (chkAll k t (pidx ps) (fun i => if ((plen' ps i : Nat) : Int) = (plen k size : Nat) then 0 else 10) n != 0) = true := by simpa using hne
  have b1 : decide ((size : Int) < 0) = false := by simp
  have b2 : decide ((8192 : Int) < (size : Int)) = false := by simp; omega
  have HC := hid (refcheck_len (k : Int) (t : Int) (plen k size) a n c ps w hp hn)
  clear hp hne
  generalize chkAll k t (pidx ps) (fun i => if ((plen' ps i : Nat) : Int) = (plen k size : Nat) then 0 else 10) n = ee at *
  go_enter Try.func36, Try.ntmps36
  go_wp2_with fail
  refine (rsizes_yes k t (by omega) (by omega) (by omega) _).mono ?_
  rintro e w' ⟨rfl, rfl⟩
  go_wp2_with fail
  refine (length_ok k size h1 (by omega) h4 _).mono ?_
  rintro e w' ⟨rfl, rfl⟩
  go_wp2_with fail
  refine HC.out.mono ?_
  rintro e w5 ⟨rfl, hb⟩
  go_wp2
  go_ret2
  exact ⟨rfl, hb⟩

/-- the first i pieces one after another -/
def catL (D : List (List Nat)) (l : List Nat) (L k i : Nat) : List Nat := (List.range (i * L)).map (joinF D l L k)
theorem catL_succ (D : List (List Nat)) (l : List Nat) (L k i : Nat) : catL D l L k i ++ mixL D (wts l (scales l) i) L k = catL D l L k (i + 1) := by
  unfold catL
  rw [Nat.succ_mul, List.range_add, List.map_append, List.map_map]
  congr 1
  refine ext_getD (by simp [mixL_length]) fun c hc => ?_
  rw [mixL_length] at hc
  have hc2 : c < L := hc
  rw [← joinF_at D l L k i c hc2, List.getD_eq_getElem?_getD (l := List.map _ _), List.getElem?_map, List.getElem?_range hc2]
  rfl
theorem catL_length (D : List (List Nat)) (l : List Nat) (L k i : Nat) : (catL D l L k i).length = i * L := by simp [catL]
theorem joinF_lt {D : List (List Nat)} {l : List Nat} {L k p : Nat} (h : ∀ i j, (D.getD i []).getD j 0 < 256) : joinF D l L k p < 256 := getD_lt (mixL_lt D (wts l (scales l) (p / L)) L k (fun i => getD_lt (wts_lt _ _ _) i)) _
theorem catL_take (D : List (List Nat)) (l : List Nat) (L k size : Nat) (h : size ≤ k * L) : (catL D l L k k).take size = joinL D l L k size := by
  unfold catL joinL
  rw [← List.map_take, List.take_range, Nat.min_eq_left h]
theorem Bs.take {w : World} {a : Option Addr} {n c : Nat} {l : List Nat} (h : Bs w (.slice a n c) l) (m : Nat) (hm : m ≤ n) : Bs w (.slice a m c) (l.take m) := by
  have hlen := h.len
  obtain ⟨a', c', h1, h2, h3⟩ := h
  simp only [Value.slice.injEq] at h1
  obtain ⟨rfl, _, rfl⟩ := h1
  refine ⟨a, c, by rw [List.length_take, ← hlen, Nat.min_eq_left hm], fun x hx => h2 x (List.mem_of_mem_take hx), fun hne => ?_⟩
  have hm0 : m ≠ 0 := fun e => hne (by rw [e]; rfl)
  obtain ⟨b, o, ha, hc⟩ := h3 (by intro e; rw [e] at hlen; simp at hlen; omega)
  refine ⟨b, o, ha, fun i hi => ?_⟩
  rw [List.length_take] at hi
  rw [hc i (by omega), List.getD_eq_getElem?_getD, List.getD_eq_getElem?_getD, List.getElem?_take_of_lt (by omega)]

set_option maxRecDepth 100000 in
set_option maxHeartbeats 2000000 in
theorem Join_ok (k t size : Nat) (a : Option Addr) (n c : Nat) (ps : List (Int × Sl)) (D : Nat → List Nat) (h1 : 1 ≤ k) (h2 : k ≤ t) (h3 : t ≤ 255) (h4 : size ≤ 8192) (hn : n ≤ 100000) (hnc : n ≤ c) (w : World) (hp : Ps w (.slice a n c) ps)
    (hD : ∀ i, (h : i < ps.length) → Bs w (.slice ps[i].2.1 ps[i].2.2.1 ps[i].2.2.2) (D i))
    (hz : chkAll k t (pidx ps) (fun i => if ((plen' ps i : Nat) : Int) = (plen k size : Nat) then 0 else 10) n = 0) :
    Calls Try.prog 36 #[.int .i64 k, .int .i64 t, .int .i64 size, .slice a n c] w fun e w' => ∃ ja jc, e = .returned (.tuple #[.slice ja size jc, .int .i64 0]) ∧ Bs w' (.slice ja size jc) (joinL ((List.range k).map D) (places ps k) (plen k size) k size) ∧ Below w.heap.size w w' := by
  have hnot : ∀ (x : Bool) (w : World), (Op.unary .not (.bool x)).run Try.prog w = .ok (.bool (!x)) w := fun _ _ => rfl
  have hfit := fit_of hz
  have hkn : k ≤ n := by have := hfit.few; omega
  have hnp : n = ps.length := by obtain ⟨_, _, h, _⟩ := hp; simp at h; exact h.2.1
  obtain ⟨b, o, rfl⟩ : ∃ b o, a = some ⟨b, o, none⟩ := by
    obtain ⟨a', c', e1, e3⟩ := hp
    obtain ⟨b, o, ha, _⟩ := e3 (by intro e; rw [e] at hnp; simp at hnp; omega)
    simp at e1
    exact ⟨b, o, e1.1.trans ha⟩
  obtain ⟨i0, hi0, hz0, hz1, hz2⟩ := info_parts info5
  have b1 : decide ((size : Int) < 0) = false := by simp
  have b2 : decide ((8192 : Int) < (size : Int)) = false := by simp; omega
  have hc := refcheck_len (k : Int) (t : Int) (plen k size) (some ⟨b, o, none⟩) n c ps w hp hn
  rw [hz] at hc
  have HC := hid hc
  have hlens : ∀ i, i < n → plen' ps i = plen k size := fun i hi => by
    have h5 := hfit.ok i hi
    by_cases e : ((plen' ps i : Nat) : Int) = (plen k size : Nat)
    · omega
    · rw [if_neg e] at h5; omega
  have HLENS := hid hlens
  have HFIT := hid hfit
  have HN := hid hnp
  have HP := hid hp
  have HD := hid hD
  have hLn := plen_le k size h1
  have HKL := hid (plen_ge k size h1)
  have HKB := hid (show k * plen k size ≤ 255 * 8192 from Nat.mul_le_mul (by omega) (by omega))
  have HLT := hid (places_lt (k := k) HFIT.out (by omega))
  have HND := hid (places_nodup (k := k) HFIT.out)
  have HDL := hid (show ∀ i j, (((List.range k).map D).getD i []).getD j 0 < 256 from fun i j => by
    by_cases h : i < k
    · rw [range_map_getD _ _ _ h]
      exact (HD.out i (by rw [← HN.out]; omega)).lt j
    · rw [List.getD_eq_getElem?_getD (l := List.map _ _), List.getElem?_eq_none (by simp; omega)]
      show (0 : Nat) < 256
      omega)
  clear hp hD hz hc hnp hlens hfit
  generalize hL : plen k size = L at *
  have HL := hid hL
  clear hL
  go_enter Try.func36, Try.ntmps36
  go_wp2_with fail
  refine (rsizes_yes k t (by omega) (by omega) (by omega) _).mono ?_
  rintro e w' ⟨rfl, rfl⟩
  go_wp2_with fail
  refine (length_ok k size h1 (by omega) h4 _).mono ?_
  rw [HL.out]
  rintro e w' ⟨rfl, rfl⟩
  go_wp2_with fail
  refine HC.out.mono ?_
  rintro e w5 ⟨rfl, hb⟩
  have HB := hid hb
  have hown : (w5.alloc (.cells #[] 5)).ownsRow w.heap.size 5 1 (.slice (some ⟨w5.heap.size, 0, none⟩) 0 0) 0 (u8s (catL ((List.range k).map D) (places ps k) L k 0)) := ⟨by simp [catL, u8s], .inr ⟨w5.heap.size, 0, #[], rfl, hb.size, heap_new _ _, Nat.le_refl _, Nat.zero_le _, rfl, by simp [catL, u8s]⟩⟩
  have hbw : Below w.heap.size w (w5.alloc (.cells #[] 5)) := hb.alloc hb.size _
  clear hb
  go_wp2
  go_loopw [13, 14] (fun v iv wr => ∃ i : Nat, i ≤ k ∧ iv = .int .i64 i ∧ Hid (wr.ownsRow w.heap.size 5 1 v (i * L) (u8s (catL ((List.range k).map D) (places ps k) L k i))) ∧ Below w.heap.size w wr) (fun _ iv _ => k - (intOf iv).toNat)
  case atStart => exact ⟨0, by omega, rfl, hid (by rw [Nat.zero_mul]; exact hown), hbw⟩
  case round =>
    clear hown hbw
    obtain ⟨i, hi', rfl, HOWN, hbw⟩ := hrel
    by_cases hlt : i < k
    · have hi2 : i < 256 := by omega
      go_wp2_with fail
      refine (value_any k n b o c L i ps D _ h1 (by omega) hkn hnc hi2 (by omega) (HP.out.below hbw) (fun q h => (HD.out q h).below hbw) (fun q h => HLENS.out q (by omega)) (fun q h => ⟨HFIT.out.lo q (by omega), by have := HFIT.out.hi q (by omega); omega⟩) HND.out).mono ?_
      rintro e w6 ⟨oc, hoc, rfl, ho6, hb6⟩
      have hown6 := owns_below HOWN.out hb6
      have HO6 := hid hown6
      have hwb : Below w.heap.size w w6 := hbw.trans (hb6.mono hbw.size)
      have hiL : (i + 1) * L ≤ 255 * 8192 := Nat.mul_le_mul (by omega) (by omega)
      have HIL := hid (show i * L + L ≤ 255 * 8192 by rw [← Nat.succ_mul]; exact hiL)
      have HNEWS := hid (show ∀ j u, (u8s (mixL ((List.range k).map D) (wts (places ps k) (scales (places ps k)) i) L k))[j]? = some u → w6.cell? ((⟨oc, 0, none⟩ : Addr).add j) = some u from fun j u hj => by
        rw [show (⟨oc, 0, none⟩ : Addr).add j = ⟨oc, j, none⟩ from by unfold Addr.add; split <;> simp_all, cell_of_heap ho6]
        simpa using hj)
      have HLEN := hid (show (u8s (mixL ((List.range k).map D) (wts (places ps k) (scales (places ps k)) i) L k)).length = L * 1 by simp [u8s, mixL_length])
      have HONE := hid (u8s_oneC (mixL ((List.range k).map D) (wts (places ps k) (scales (places ps k)) i) L k))
      have HM := hid (show i * L + L ≤ maxLen by have := HIL.out; unfold maxLen; omega)
      have HM2 := hid (show (i * L + L) * 1 ≤ 140737488355328 by have := HIL.out; omega)
      have hsz := hwb.size
      clear hown6 ho6 hb6 hbw HOWN hiL
      go_wp2_with (refine wpList_append_own _ rfl (.tmp 47) (.tmp 52) _ rfl w.heap.size 5 i0 (.int .u8 0) 1 1 Try.underlying27 hi0 hz0 hz1 hz2 rfl (by decide) _ (i * L) (u8s (catL ((List.range k).map D) (places ps k) L k i)) rfl HO6.out ⟨oc, 0, none⟩ L L (u8s (mixL ((List.range k).map D) (wts (places ps k) (scales (places ps k)) i) L k)) rfl HLEN.out HNEWS.out HONE.out HM.out HM2.out hsz ?_)
      intro v' w7 hown7 hg7 _
      have hb7 : Below w.heap.size w w7 := hwb.grown hg7 hsz (fun g hg => (HO6.out.lt g hg).1)
      have e7 : u8s (catL ((List.range k).map D) (places ps k) L k i) ++ u8s (mixL ((List.range k).map D) (wts (places ps k) (scales (places ps k)) i) L k) = u8s (catL ((List.range k).map D) (places ps k) L k (i + 1)) := by
        rw [← catL_succ]; simp [u8s]
      rw [e7, ← Nat.succ_mul] at hown7
      have H7 := hid hown7
      clear hown7 hg7 e7 hwb hsz
      go_wp2
      go_roundw
      case rel => exact ⟨i + 1, by omega, by go_num, H7, hb7⟩
      case measure => simp [intOf]; omega
    · obtain rfl : i = k := by omega
      obtain ⟨xa, xc, rfl, hm1, hm2, hbs, hm3⟩ := bs_of_owns HOWN.out (fun x hx => by
        obtain ⟨y, _, rfl⟩ := List.mem_map.1 hx
        exact joinF_lt HDL.out)
      have hkl := HKL.out
      have hsc : size ≤ xc := by omega
      have hres := hbs.take size hkl
      rw [catL_take _ _ _ _ _ hkl] at hres
      have HRES := hid hres
      clear hm1 hm2 hbs hm3 hres hkl HOWN
      generalize i * L = iL at *
      go_wp2
      go_ret2
      exact ⟨xa, xc, rfl, HRES.out, hbw⟩
end Go.Proofs.Ytbajekiliplclaa
