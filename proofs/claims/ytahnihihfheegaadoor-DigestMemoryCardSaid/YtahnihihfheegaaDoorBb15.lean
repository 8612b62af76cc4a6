/-
  The reference's Join: the object that pieces determine; its errors. · NewField. · known: the few calls that every statement of chapter 2 ends with. · Assemble: the object of a manifest's pieces; what it answers. · The pieces that mine has copied: what a call may read of them, whatever becomes of the field. · The reference's pieces: the error of a list of pieces, each held against those before it.
-/
import Derived.Test.YtahnihihfheegaaDoorBb14
import Derived.Test.YtahnihihfheegaaDoorBb4
import Derived.Deep.RegionWith
import Derived.Test.YtahnihihfheegaaDoorBb6
import Derived.Test.YtahnihihfheegaaDoorBb12
import Derived.Test.YtahnihihfheegaaDoorBb7
import Derived.Lib.SlBytesConst
import Derived.Test.YtahnihihfheegaaDoorBb10
namespace Go.Proofs.YtahnihihfheegaaDoor
open Go Go.RowKit
set_option linter.unusedVariables false

theorem Join_size (k t size : Int) (a : Option Addr) (n c : Nat) (h : ¬ (1 ≤ k ∧ k ≤ t ∧ t ≤ 255 ∧ 0 ≤ size ∧ size ≤ 8192)) (w : World) :
    Calls Tryd.prog 30 #[.int .i64 k, .int .i64 t, .int .i64 size, .slice a n c] w fun e w' => e = .returned (.tuple #[.slice none 0 0, .int .i64 2]) ∧ w = w' := by
  have hnot : ∀ (x : Bool) (w : World), (Op.unary .not (.bool x)).run Tryd.prog w = .ok (.bool (!x)) w := fun _ _ => rfl
  by_cases h1 : 1 ≤ k ∧ k ≤ t ∧ t ≤ 255
  · obtain ⟨a1, a2, a3⟩ := h1
    by_cases h2 : size < 0
    · have b1 : decide (size < 0) = true := by simpa using h2
      clear h
      go_enter Tryd.func30, Tryd.ntmps30
      go_wp2_with fail
      refine (rsizes_yes k t a1 a2 a3 _).mono ?_
      rintro e w' ⟨rfl, rfl⟩
      go_wp2
      go_ret2
      exact ⟨rfl, rfl⟩
    · have b1 : decide (size < 0) = false := by simp; omega
      have b2 : decide ((8192 : Int) < size) = true := by simp; omega
      clear h
      go_enter Tryd.func30, Tryd.ntmps30
      go_wp2_with fail
      refine (rsizes_yes k t a1 a2 a3 _).mono ?_
      rintro e w' ⟨rfl, rfl⟩
      go_wp2
      go_ret2
      exact ⟨rfl, rfl⟩
  · have H := hid h1
    clear h h1
    go_enter Tryd.func30, Tryd.ntmps30
    go_wp2_with fail
    refine (rsizes_no k t H.out _).mono ?_
    rintro e w' ⟨rfl, rfl⟩
    go_wp2
    go_ret2
    exact ⟨rfl, rfl⟩

theorem Join_err (k t size : Nat) (a : Option Addr) (n c : Nat) (ps : List (Int × Sl)) (h1 : 1 ≤ k) (h2 : k ≤ t) (h3 : t ≤ 255) (h4 : size ≤ 8192) (hn : n ≤ 100000) (w : World) (hp : Ps w (.slice a n c) ps)
    (hne : chkAll k t (pidx ps) (fun i => if ((plen' ps i : Nat) : Int) = (plen k size : Nat) then 0 else 10) n ≠ 0) :
    Calls Tryd.prog 30 #[.int .i64 k, .int .i64 t, .int .i64 size, .slice a n c] w fun e w' => e = .returned (.tuple #[.slice none 0 0, .int .i64 (chkAll k t (pidx ps) (fun i => if ((plen' ps i : Nat) : Int) = (plen k size : Nat) then 0 else 10) n)]) ∧ Below w.heap.size w w' := by
  have hnot : ∀ (x : Bool) (w : World), (Op.unary .not (.bool x)).run Tryd.prog w = .ok (.bool (!x)) w := fun _ _ => rfl
  have bn : (chkAll k t (pidx ps) (fun i => if ((plen' ps i : Nat) : Int) = (plen k size : Nat) then 0 else 10) n != 0) = true := by simpa using hne
  have b1 : decide ((size : Int) < 0) = false := by simp
  have b2 : decide ((8192 : Int) < (size : Int)) = false := by simp; omega
  have HC := hid (refcheck_len (k : Int) (t : Int) (plen k size) a n c ps w hp hn)
  clear hp hne
  generalize chkAll k t (pidx ps) (fun i => if ((plen' ps i : Nat) : Int) = (plen k size : Nat) then 0 else 10) n = ee at *
  go_enter Tryd.func30, Tryd.ntmps30
  go_wp2_with fail
  refine (rsizes_yes k t (by omega) (by omega) (by omega) _).mono ?_
  rintro e w' ⟨rfl, rfl⟩
  go_wp2_with fail
  refine (length_ok k size h1 (by omega) h4 _).mono ?_
  rintro e w' ⟨rfl, rfl⟩
  go_wp2_with fail
  refine HC.out.mono ?_
  rintro e w5 ⟨rfl, hb⟩
  go_wp2
  go_ret2
  exact ⟨rfl, hb⟩

/-- the first i pieces one after another -/
def catL (D : List (List Nat)) (l : List Nat) (L k i : Nat) : List Nat := (List.range (i * L)).map (joinF D l L k)
theorem catL_succ (D : List (List Nat)) (l : List Nat) (L k i : Nat) : catL D l L k i ++ mixL D (wts l (scales l) i) L k = catL D l L k (i + 1) := by
  unfold catL
  rw [Nat.succ_mul, List.range_add, List.map_append, List.map_map]
  congr 1
  refine ext_getD (by simp [mixL_length]) fun c hc => ?_
  rw [mixL_length] at hc
  have hc2 : c < L := hc
  rw [← joinF_at D l L k i c hc2, List.getD_eq_getElem?_getD (l := List.map _ _), List.getElem?_map, List.getElem?_range hc2]
  rfl
theorem catL_length (D : List (List Nat)) (l : List Nat) (L k i : Nat) : (catL D l L k i).length = i * L := by simp [catL]
theorem joinF_lt {D : List (List Nat)} {l : List Nat} {L k p : Nat} (h : ∀ i j, (D.getD i []).getD j 0 < 256) : joinF D l L k p < 256 := getD_lt (mixL_lt D (wts l (scales l) (p / L)) L k (fun i => getD_lt (wts_lt _ _ _) i)) _
theorem catL_take (D : List (List Nat)) (l : List Nat) (L k size : Nat) (h : size ≤ k * L) : (catL D l L k k).take size = joinL D l L k size := by
  unfold catL joinL
  rw [← List.map_take, List.take_range, Nat.min_eq_left h]
theorem Bs.take {w : World} {a : Option Addr} {n c : Nat} {l : List Nat} (h : Bs w (.slice a n c) l) (m : Nat) (hm : m ≤ n) : Bs w (.slice a m c) (l.take m) := by
  have hlen := h.len
  obtain ⟨a', c', h1, h2, h3⟩ := h
  simp only [Value.slice.injEq] at h1
  obtain ⟨rfl, _, rfl⟩ := h1
  refine ⟨a, c, by rw [List.length_take, ← hlen, Nat.min_eq_left hm], fun x hx => h2 x (List.mem_of_mem_take hx), fun hne => ?_⟩
  have hm0 : m ≠ 0 := fun e => hne (by rw [e]; rfl)
  obtain ⟨b, o, ha, hc⟩ := h3 (by intro e; rw [e] at hlen; simp at hlen; omega)
  refine ⟨b, o, ha, fun i hi => ?_⟩
  rw [List.length_take] at hi
  rw [hc i (by omega), List.getD_eq_getElem?_getD, List.getD_eq_getElem?_getD, List.getElem?_take_of_lt (by omega)]

theorem nil_ownsJ {w : World} {base m n c : Nat} {a : Option Addr} {xs : List Value} (h : w.ownsRow base 5 1 (.slice a n c) m xs) : a = none → c = 0 := fun e => by
  rcases h.2 with ⟨h1, _⟩ | ⟨g, cap, cur, h1, _⟩
  · simp only [Value.slice.injEq] at h1
    exact h1.2.2
  · simp only [Value.slice.injEq] at h1
    rw [h1.1] at e
    cases e
set_option maxRecDepth 100000 in
set_option maxHeartbeats 2000000 in
theorem Join_okN (k t size : Nat) (a : Option Addr) (n c : Nat) (ps : List (Int × Sl)) (D : Nat → List Nat) (h1 : 1 ≤ k) (h2 : k ≤ t) (h3 : t ≤ 255) (h4 : size ≤ 8192) (hn : n ≤ 100000) (hnc : n ≤ c) (w : World) (hp : Ps w (.slice a n c) ps)
    (hD : ∀ i, (h : i < ps.length) → Bs w (.slice ps[i].2.1 ps[i].2.2.1 ps[i].2.2.2) (D i))
    (hz : chkAll k t (pidx ps) (fun i => if ((plen' ps i : Nat) : Int) = (plen k size : Nat) then 0 else 10) n = 0) :
    Calls Tryd.prog 30 #[.int .i64 k, .int .i64 t, .int .i64 size, .slice a n c] w fun e w' => ∃ ja jc, e = .returned (.tuple #[.slice ja size jc, .int .i64 0]) ∧ Bs w' (.slice ja size jc) (joinL ((List.range k).map D) (places ps k) (plen k size) k size) ∧ (ja = none → jc = 0) ∧ Below w.heap.size w w' := by
  have hnot : ∀ (x : Bool) (w : World), (Op.unary .not (.bool x)).run Tryd.prog w = .ok (.bool (!x)) w := fun _ _ => rfl
  have hfit := fit_of hz
  have hkn : k ≤ n := by have := hfit.few; omega
  have hnp : n = ps.length := by obtain ⟨_, _, h, _⟩ := hp; simp at h; exact h.2.1
  obtain ⟨b, o, rfl⟩ : ∃ b o, a = some ⟨b, o, none⟩ := by
    obtain ⟨a', c', e1, e3⟩ := hp
    obtain ⟨b, o, ha, _⟩ := e3 (by intro e; rw [e] at hnp; simp at hnp; omega)
    simp at e1
    exact ⟨b, o, e1.1.trans ha⟩
  obtain ⟨i0, hi0, hz0, hz1, hz2⟩ := info_parts info5
  have b1 : decide ((size : Int) < 0) = false := by simp
  have b2 : decide ((8192 : Int) < (size : Int)) = false := by simp; omega
  have hc := refcheck_len (k : Int) (t : Int) (plen k size) (some ⟨b, o, none⟩) n c ps w hp hn
  rw [hz] at hc
  have HC := hid hc
  have hlens : ∀ i, i < n → plen' ps i = plen k size := fun i hi => by
    have h5 := hfit.ok i hi
    by_cases e : ((plen' ps i : Nat) : Int) = (plen k size : Nat)
    · omega
    · rw [if_neg e] at h5; omega
  have HLENS := hid hlens
  have HFIT := hid hfit
  have HN := hid hnp
  have HP := hid hp
  have HD := hid hD
  have hLn := plen_le k size h1
  have HKL := hid (plen_ge k size h1)
  have HKB := hid (show k * plen k size ≤ 255 * 8192 from Nat.mul_le_mul (by omega) (by omega))
  have HLT := hid (places_lt (k := k) HFIT.out (by omega))
  have HND := hid (places_nodup (k := k) HFIT.out)
  have HDL := hid (show ∀ i j, (((List.range k).map D).getD i []).getD j 0 < 256 from fun i j => by
    by_cases h : i < k
    · rw [range_map_getD _ _ _ h]
      exact (HD.out i (by rw [← HN.out]; omega)).lt j
    · rw [List.getD_eq_getElem?_getD (l := List.map _ _), List.getElem?_eq_none (by simp; omega)]
      show (0 : Nat) < 256
      omega)
  clear hp hD hz hc hnp hlens hfit
  generalize hL : plen k size = L at *
  have HL := hid hL
  clear hL
  go_enter Tryd.func30, Tryd.ntmps30
  go_wp2_with fail
  refine (rsizes_yes k t (by omega) (by omega) (by omega) _).mono ?_
  rintro e w' ⟨rfl, rfl⟩
  go_wp2_with fail
  refine (length_ok k size h1 (by omega) h4 _).mono ?_
  rw [HL.out]
  rintro e w' ⟨rfl, rfl⟩
  go_wp2_with fail
  refine HC.out.mono ?_
  rintro e w5 ⟨rfl, hb⟩
  have HB := hid hb
  have hown : (w5.alloc (.cells #[] 5)).ownsRow w.heap.size 5 1 (.slice (some ⟨w5.heap.size, 0, none⟩) 0 0) 0 (u8s (catL ((List.range k).map D) (places ps k) L k 0)) := ⟨by simp [catL, u8s], .inr ⟨w5.heap.size, 0, #[], rfl, hb.size, heap_new _ _, Nat.le_refl _, Nat.zero_le _, rfl, by simp [catL, u8s]⟩⟩
  have hbw : Below w.heap.size w (w5.alloc (.cells #[] 5)) := hb.alloc hb.size _
  clear hb
  go_wp2
  go_loopw [13, 14] (fun v iv wr => ∃ i : Nat, i ≤ k ∧ iv = .int .i64 i ∧ Hid (wr.ownsRow w.heap.size 5 1 v (i * L) (u8s (catL ((List.range k).map D) (places ps k) L k i))) ∧ Below w.heap.size w wr) (fun _ iv _ => k - (intOf iv).toNat)
  case atStart => exact ⟨0, by omega, rfl, hid (by rw [Nat.zero_mul]; exact hown), hbw⟩
  case round =>
    clear hown hbw
    obtain ⟨i, hi', rfl, HOWN, hbw⟩ := hrel
    by_cases hlt : i < k
    · have hi2 : i < 256 := by omega
      go_wp2_with fail
      refine (value_any k n b o c L i ps D _ h1 (by omega) hkn hnc hi2 (by omega) (HP.out.below hbw) (fun q h => (HD.out q h).below hbw) (fun q h => HLENS.out q (by omega)) (fun q h => ⟨HFIT.out.lo q (by omega), by have := HFIT.out.hi q (by omega); omega⟩) HND.out).mono ?_
      rintro e w6 ⟨oc, hoc, rfl, ho6, hb6⟩
      have hown6 := owns_below HOWN.out hb6
      have HO6 := hid hown6
      have hwb : Below w.heap.size w w6 := hbw.trans (hb6.mono hbw.size)
      have hiL : (i + 1) * L ≤ 255 * 8192 := Nat.mul_le_mul (by omega) (by omega)
      have HIL := hid (show i * L + L ≤ 255 * 8192 by rw [← Nat.succ_mul]; exact hiL)
      have HNEWS := hid (show ∀ j u, (u8s (mixL ((List.range k).map D) (wts (places ps k) (scales (places ps k)) i) L k))[j]? = some u → w6.cell? ((⟨oc, 0, none⟩ : Addr).add j) = some u from fun j u hj => by
        rw [show (⟨oc, 0, none⟩ : Addr).add j = ⟨oc, j, none⟩ from by unfold Addr.add; split <;> simp_all, cell_of_heap ho6]
        simpa using hj)
      have HLEN := hid (show (u8s (mixL ((List.range k).map D) (wts (places ps k) (scales (places ps k)) i) L k)).length = L * 1 by simp [u8s, mixL_length])
      have HONE := hid (u8s_oneC (mixL ((List.range k).map D) (wts (places ps k) (scales (places ps k)) i) L k))
      have HM := hid (show i * L + L ≤ maxLen by have := HIL.out; unfold maxLen; omega)
      have HM2 := hid (show (i * L + L) * 1 ≤ 140737488355328 by have := HIL.out; omega)
      have hsz := hwb.size
      clear hown6 ho6 hb6 hbw HOWN hiL
      go_wp2_with (refine wpList_append_own _ rfl (.tmp 47) (.tmp 52) _ rfl w.heap.size 5 i0 (.int .u8 0) 1 1 Tryd.underlying22 hi0 hz0 hz1 hz2 rfl (by decide) _ (i * L) (u8s (catL ((List.range k).map D) (places ps k) L k i)) rfl HO6.out ⟨oc, 0, none⟩ L L (u8s (mixL ((List.range k).map D) (wts (places ps k) (scales (places ps k)) i) L k)) rfl HLEN.out HNEWS.out HONE.out HM.out HM2.out hsz ?_)
      intro v' w7 hown7 hg7 _
      have hb7 : Below w.heap.size w w7 := hwb.grown hg7 hsz (fun g hg => (HO6.out.lt g hg).1)
      have e7 : u8s (catL ((List.range k).map D) (places ps k) L k i) ++ u8s (mixL ((List.range k).map D) (wts (places ps k) (scales (places ps k)) i) L k) = u8s (catL ((List.range k).map D) (places ps k) L k (i + 1)) := by
        rw [← catL_succ]; simp [u8s]
      rw [e7, ← Nat.succ_mul] at hown7
      have H7 := hid hown7
      clear hown7 hg7 e7 hwb hsz
      go_wp2
      go_roundw
      case rel => exact ⟨i + 1, by omega, by go_num, H7, hb7⟩
      case measure => simp [intOf]; omega
    · obtain rfl : i = k := by omega
      obtain ⟨xa, xc, rfl, hm1, hm2, hbs, hm3⟩ := bs_of_owns HOWN.out (fun x hx => by
        obtain ⟨y, _, rfl⟩ := List.mem_map.1 hx
        exact joinF_lt HDL.out)
      have hkl := HKL.out
      have hsc : size ≤ xc := by omega
      have hres := hbs.take size hkl
      rw [catL_take _ _ _ _ _ hkl] at hres
      have HRES := hid hres
      clear hm1 hm2 hbs hm3 hres hkl
      have hnilJ := hid (nil_ownsJ HOWN.out)
      clear HOWN
      generalize i * L = iL at *
      go_wp2
      go_ret2
      exact ⟨xa, xc, rfl, HRES.out, hnilJ.out, hbw⟩
theorem Join_ok (k t size : Nat) (a : Option Addr) (n c : Nat) (ps : List (Int × Sl)) (D : Nat → List Nat) (h1 : 1 ≤ k) (h2 : k ≤ t) (h3 : t ≤ 255) (h4 : size ≤ 8192) (hn : n ≤ 100000) (hnc : n ≤ c) (w : World) (hp : Ps w (.slice a n c) ps)
    (hD : ∀ i, (h : i < ps.length) → Bs w (.slice ps[i].2.1 ps[i].2.2.1 ps[i].2.2.2) (D i))
    (hz : chkAll k t (pidx ps) (fun i => if ((plen' ps i : Nat) : Int) = (plen k size : Nat) then 0 else 10) n = 0) :
    Calls Tryd.prog 30 #[.int .i64 k, .int .i64 t, .int .i64 size, .slice a n c] w fun e w' => ∃ ja jc, e = .returned (.tuple #[.slice ja size jc, .int .i64 0]) ∧ Bs w' (.slice ja size jc) (joinL ((List.range k).map D) (places ps k) (plen k size) k size) ∧ Below w.heap.size w w' :=
  (Join_okN k t size a n c ps D h1 h2 h3 h4 hn hnc w hp hD hz).mono fun _ _ ⟨ja, jc, h1, h2, _, h3⟩ => ⟨ja, jc, h1, h2, h3⟩

end Go.Proofs.YtahnihihfheegaaDoor

namespace Go.Proofs.YtahnihihfheegaaDoor
open Go.RowKit

theorem zero98 : Tryd.zeroCells75 = fcells 0 0 (tabTo 0) := by kernel_rfl
/-- NewField -/
theorem newField_any (w : World) :
    Calls Tryd.prog 12 #[] w fun e w' => e = .returned (.pointer (some ⟨w.heap.size, 0, none⟩)) ∧ Fresh w' w.heap.size ∧ Below w.heap.size w w' := by
  go_enter Tryd.func12, Tryd.ntmps12
  go_wp2
  go_ret
  exact ⟨rfl, by rw [zero98]; exact heap_new _ _, (Below.refl _ _).alloc (Nat.le_refl _) _⟩
end Go.Proofs.YtahnihihfheegaaDoor

namespace Go.Proofs.YtahnihihfheegaaDoor
open Go Go.RowKit
set_option linter.unusedVariables false

theorem hex_abc : bstr (hexL [186, 120, 22, 191, 143, 1, 207, 234, 65, 65, 64, 222, 93, 174, 34, 35, 176, 3, 97, 163, 150, 23, 122, 156, 180, 16, 255, 97, 242, 0, 21, 173] 32) = (⟨#[98, 97, 55, 56, 49, 54, 98, 102, 56, 102, 48, 49, 99, 102, 101, 97, 52, 49, 52, 49, 52, 48, 100, 101, 53, 100, 97, 101, 50, 50, 50, 51, 98, 48, 48, 51, 54, 49, 97, 51, 57, 54, 49, 55, 55, 97, 57, 99, 98, 52, 49, 48, 102, 102, 54, 49, 102, 50, 48, 48, 49, 53, 97, 100]⟩ : ByteArray) := by kernel_rfl
theorem man_known (od : List Nat) (h : od.length = 32) (D : List (List Nat)) : (encTo 2 3 3 2 od D 3).take 7 = [77, 1, 2, 3, 3, 0, 2] := rfl
theorem bstr_seven : bstr [77, 1, 2, 3, 3, 0, 2] = (⟨#[77, 1, 2, 3, 3, 0, 2]⟩ : ByteArray) := by kernel_rfl
theorem bs_mark (w : World) (l : List Nat) (hl : ∀ n ∈ l, n < 256) (T : TypeId) (fr : Nat × Nat) (c : Nat) : Bs (w.alloc (.cells (u8s l).toArray T fr)) (.slice (some ⟨w.heap.size, 0, none⟩) l.length c) l :=
  ⟨_, c, rfl, hl, fun _ => ⟨w.heap.size, 0, rfl, fun i hi => by
    have h := heap_new w (.cells (u8s l).toArray T fr)
    rw [Nat.zero_add]
    unfold World.cell?
    rw [h]
    simp [u8s, hi]⟩⟩
theorem plen_2_2 : plen 2 2 = 1 := by kernel_rfl

theorem range_of_heap {w : World} {b : Nat} {cs : List Value} {T : TypeId} (h : w.heap[b]? = some (.cells cs.toArray T (0, 0))) : w.rangeAt b 0 cs := fun j v hj => by
  rw [Nat.zero_add, cell_of_heap h, List.getElem?_toArray]
  exact hj
theorem upto_run (a : Option Addr) (n c k : Nat) (h : k ≤ c) (w' : World) : (Instr.sliceAt 22 (.slice a n c) none (some (.int .i64 (k : Int))) none).run Tryd.prog w' = .ok (.slice a k c) w' := by
  have u1 : (k : Int) ≤ (c : Int) := by omega
  have u2 : (0 : Int) ≤ (k : Int) := by omega
  cases a <;> simp [go_sem, Tryd.underlying22, u1, u2]
theorem DgAt.same {w w' : World} {gd n c : Nat} {D : List (List Nat)} (h : DgAt w (.slice (some ⟨gd, 0, none⟩) n c) D) (k : w'.heap[gd]? = w.heap[gd]?) : DgAt w' (.slice (some ⟨gd, 0, none⟩) n c) D := by
  obtain ⟨a, c', h1, h2, h3⟩ := h
  refine ⟨a, c', h1, h2, fun hD => ?_⟩
  obtain ⟨b, o, h4, h5⟩ := h3 hD
  refine ⟨b, o, h4, fun j hj => range_same (h5 j hj) ?_⟩
  simp only [Value.slice.injEq] at h1
  rw [h4] at h1
  simp only [Option.some.injEq, Addr.mk.injEq] at h1
  rw [← h1.1.1]
  exact k
theorem digL_lt' (h : List Nat) : ∀ x ∈ digL h, x < 256 := fun x hx => by
  unfold digL at hx
  obtain ⟨p, _, rfl⟩ := List.mem_map.1 hx
  exact Nat.mod_lt _ (by decide)
theorem digL_lt {KC SH m : List Nat} (l : Unit) : ∀ x ∈ dig KC SH m, x < 256 := digL_lt' _
theorem dgAt_three {w : World} {gd : Nat} {KC SH l : List Nat} {k L : Nat} (h : ∀ j, j < 3 → w.rangeAt gd (j * 32) (u8s (pdg KC SH l k L j))) : DgAt w (.slice (some ⟨gd, 0, none⟩) 3 3) [pdg KC SH l k L 0, pdg KC SH l k L 1, pdg KC SH l k L 2] := by
  refine ⟨_, 3, rfl, fun d hd => ?_, fun _ => ⟨gd, 0, rfl, fun j hj => ?_⟩⟩
  · simp only [List.mem_cons, List.not_mem_nil, or_false] at hd
    rcases hd with rfl | rfl | rfl <;> exact ⟨dig_length _ _ _, digL_lt ()⟩
  · simp only [List.length_cons, List.length_nil] at hj
    rw [Nat.zero_add]
    rcases (show j = 0 ∨ j = 1 ∨ j = 2 from by omega) with rfl | rfl | rfl
    · exact h 0 (by omega)
    · exact h 1 (by omega)
    · exact h 2 (by omega)

set_option maxRecDepth 100000 in
set_option maxHeartbeats 2000000 in
theorem known_dg (w : World) (V : Vars w shaRound shaStart) :
    Calls Tryd.prog 10 #[] w fun e w' => e = .returned (.bool true) ∧ Below w.heap.size w w' := by
  have hvlt := V.lt
  -- the digest of abc
  obtain ⟨w1, hw1⟩ : ∃ x, x = w.alloc (.cells (u8s [97, 98, 99]).toArray 5 (3, 4)) := ⟨_, rfl⟩
  have hb1 : Below w.heap.size w w1 := by rw [hw1]; exact (Below.refl _ _).alloc (Nat.le_refl _) _
  have HBS1 := hid (show Bs w1 (.slice (some ⟨w.heap.size, 0, none⟩) 3 3) [97, 98, 99] from by rw [hw1]; exact bs_mark w [97, 98, 99] (by decide) _ _ 3)
  have HV1 := hid (V.below hb1)
  have HSHA := hid (SHA256_any (some ⟨w.heap.size, 0, none⟩) 3 3 shaRound shaStart [97, 98, 99] w1 HV1.out HBS1.out (Nat.le_refl _) (by decide))
  have hdl := dig_length shaRound shaStart [97, 98, 99]
  have hhex : bstr (hexL (dig shaRound shaStart [97, 98, 99]) 32) = (⟨#[98, 97, 55, 56, 49, 54, 98, 102, 56, 102, 48, 49, 99, 102, 101, 97, 52, 49, 52, 49, 52, 48, 100, 101, 53, 100, 97, 101, 50, 50, 50, 51, 98, 48, 48, 51, 54, 49, 97, 51, 57, 54, 49, 55, 55, 97, 57, 99, 98, 52, 49, 48, 102, 102, 54, 49, 102, 50, 48, 48, 49, 53, 97, 100]⟩ : ByteArray) := by rw [sha_abc]; exact hex_abc
  have hdlt : ∀ i, (dig shaRound shaStart [97, 98, 99]).getD i 0 < 256 := by
    rw [sha_abc]
    intro i
    rw [List.getD_eq_getElem?_getD]
    by_cases h : i < [186, 120, 22, 191, 143, 1, 207, 234, 65, 65, 64, 222, 93, 174, 34, 35, 176, 3, 97, 163, 150, 23, 122, 156, 180, 16, 255, 97, 242, 0, 21, 173].length
    · rw [List.getElem?_eq_getElem h]
      have : ∀ x ∈ [186, 120, 22, 191, 143, 1, 207, 234, 65, 65, 64, 222, 93, 174, 34, 35, 176, 3, 97, 163, 150, 23, 122, 156, 180, 16, 255, 97, 242, 0, 21, 173], x < 256 := by decide
      exact this _ (List.getElem_mem h)
    · rw [List.getElem?_eq_none (by omega)]; decide
  generalize dig shaRound shaStart [97, 98, 99] = D at *
  have HHEX := hid (fun w => Hex_any D hdl hdlt w)
  obtain ⟨X, hX⟩ : ∃ X, X = bstr (hexL D 32) := ⟨_, rfl⟩
  rw [← hX] at HHEX hhex
  have hne : (X.toList == ([98, 97, 55, 56, 49, 54, 98, 102, 56, 102, 48, 49, 99, 102, 101, 97, 52, 49, 52, 49, 52, 48, 100, 101, 53, 100, 97, 101, 50, 50, 50, 51, 98, 48, 48, 51, 54, 49, 97, 51, 57, 54, 49, 55, 55, 97, 57, 99, 98, 52, 49, 48, 102, 102, 54, 49, 102, 50, 48, 48, 49, 53, 97, 100] : List UInt8)) = true := by rw [hhex]; kernel_rfl
  have HB1 := hid hb1
  clear hhex hdlt hdl hX V hb1
  have kc := fun (w : World) (C : Array Value) (n c : Nat) => Lib.run_convert_bytes_const (P := Tryd.prog) w 22 5 C n c Tryd.underlying22 Tryd.underlying5
  go_enter Tryd.func10, Tryd.ntmps10
  go_wp2_with fail
  change Calls _ _ _ (w.alloc (.cells (u8s [97, 98, 99]).toArray 5 (3, 4))) _
  rw [← hw1]
  clear hw1
  refine HSHA.out.mono ?_
  clear HSHA
  rintro e w2 ⟨rfl, hb2⟩
  have HB2 := hid (HB1.out.trans (hb2.mono HB1.out.size))
  have HV2 := hid (HV1.out.below hb2)
  clear hb2
  go_wp2_with fail
  refine (HHEX.out w2).mono ?_
  clear HHEX
  rintro e w3 ⟨rfl, hb3⟩
  have HB3 := hid (HB2.out.trans (hb3.mono HB2.out.size))
  have HV3 := hid (HV2.out.below hb3)
  clear hb3
  obtain ⟨w4, hw4⟩ : ∃ x, x = w3.alloc (.cells (u8s [49, 50, 51, 52, 53, 54, 55, 56, 57]).toArray 5 (9, 10)) := ⟨_, rfl⟩
  have hb4 : Below w3.heap.size w3 w4 := by rw [hw4]; exact (Below.refl _ _).alloc (Nat.le_refl _) _
  have HBS4 := hid (show Bs w4 (.slice (some ⟨w3.heap.size, 0, none⟩) 9 9) [49, 50, 51, 52, 53, 54, 55, 56, 57] from by rw [hw4]; exact bs_mark w3 [49, 50, 51, 52, 53, 54, 55, 56, 57] (by decide) _ _ 9)
  have hcrc := CRC32C_any (some ⟨w3.heap.size, 0, none⟩) 9 9 [49, 50, 51, 52, 53, 54, 55, 56, 57] w4 HBS4.out (by decide)
  rw [crc_nine] at hcrc
  have HCRC := hid hcrc
  have HB4 := hid (HB3.out.trans (hb4.mono HB3.out.size))
  have HV4 := hid (HV3.out.below hb4)
  clear hcrc hb4
  go_wp2_with fail
  change Calls _ _ _ (w3.alloc (.cells (u8s [49, 50, 51, 52, 53, 54, 55, 56, 57]).toArray 5 (9, 10))) _
  rw [← hw4]
  clear hw4
  refine HCRC.out.mono ?_
  clear HCRC
  rintro e w5 ⟨rfl, rfl⟩
  go_wp2_with fail
  refine (newField_any w4).mono ?_
  rintro e w6 ⟨rfl, hF6, hb6⟩
  have HB6 := hid (HB4.out.trans (hb6.mono HB4.out.size))
  have HV6 := hid (HV4.out.below hb6)
  obtain ⟨fb, hfb⟩ : ∃ x, x = w4.heap.size := ⟨_, rfl⟩
  rw [← hfb] at hF6 ⊢
  have hfw : w.heap.size ≤ fb := by rw [hfb]; exact HB4.out.size
  have HF6 := hid hF6
  clear hb6 hfb hF6
  obtain ⟨w7, hw7⟩ : ∃ x, x = w6.alloc (.cells (u8s [97, 98]).toArray 5 (2, 3)) := ⟨_, rfl⟩
  have hb7 : Below w6.heap.size w6 w7 := by rw [hw7]; exact (Below.refl _ _).alloc (Nat.le_refl _) _
  have HBS7 := hid (show Bs w7 (.slice (some ⟨w6.heap.size, 0, none⟩) 2 2) [97, 98] from by rw [hw7]; exact bs_mark w6 [97, 98] (by decide) _ _ 2)
  have HF7 := hid (show Fld w7 fb from .inl ((hb7.block fb (lt_of_heap HF6.out)).trans HF6.out))
  have hf67 : fb < w6.heap.size := lt_of_heap HF6.out
  have HB7 := hid (HB6.out.trans (hb7.mono HB6.out.size))
  have HV7 := hid (HV6.out.below hb7)
  have HMK := hid (Make_any fb 2 3 3 2 2 (some ⟨w6.heap.size, 0, none⟩) shaRound shaStart [97, 98] w7 HF7.out HV7.out HBS7.out (by show w6.heap.size ≠ fb; omega) (Nat.le_refl _) (by decide) (by decide) (by decide) (by decide) (by decide) (by omega))
  clear hb7
  go_wp2_with fail
  change Calls _ _ _ (w6.alloc (.cells (u8s [97, 98]).toArray 5 (2, 3))) _
  rw [← hw7]
  clear hw7
  refine HMK.out.mono ?_
  clear HMK
  rintro e w8 ⟨rb, mb, g, gd, bf, N, rfl, R⟩
  have HB8 := hid (HB7.out.trans (R.kept.below HB7.out.size hfw))
  have hdl2 := dig_length shaRound shaStart [97, 98]
  have HDG := hid (show DgAt w8 (.slice (some ⟨gd, 0, none⟩) 3 3) [pdg shaRound shaStart [97, 98] 2 (plen 2 2) 0, pdg shaRound shaStart [97, 98] 2 (plen 2 2) 1, pdg shaRound shaStart [97, 98] 2 (plen 2 2) 2] from dgAt_three R.rng)
  have HLT2 := hid (show ∀ x ∈ dig shaRound shaStart [97, 98], x < 256 from digL_lt ())
  generalize pdg shaRound shaStart [97, 98] 2 (plen 2 2) 0 = g0 at *
  generalize pdg shaRound shaStart [97, 98] 2 (plen 2 2) 1 = g1 at *
  generalize pdg shaRound shaStart [97, 98] 2 (plen 2 2) 2 = g2 at *
  generalize dig shaRound shaStart [97, 98] = od at *
  have HML := hid (mcells_length ((2 : Nat) : Int) ((3 : Nat) : Int) ((3 : Nat) : Int) ((2 : Nat) : Int) od (.slice (some ⟨gd, 0, none⟩) 3 3) hdl2)
  have HON := hid (mcells_one ((2 : Nat) : Int) ((3 : Nat) : Int) ((3 : Nat) : Int) ((2 : Nat) : Int) od (some ⟨gd, 0, none⟩) 3 3)
  have HC3 := hid (fun (w' : World) (b : Nat) (h : w'.heap[b]? = some (.cells (mcells ((2 : Nat) : Int) ((3 : Nat) : Int) ((3 : Nat) : Int) ((2 : Nat) : Int) od (.slice (some ⟨gd, 0, none⟩) 3 3)).toArray 27 (0, 0))) => (show w'.cell? ⟨b, 3, none⟩ = some (.int .i64 ((2 : Nat) : Int)) from (ManAt.c h hdl2).2.2.2.1))
  have HEN := hid (fun (wx : World) (h : DgAt wx (.slice (some ⟨gd, 0, none⟩) 3 3) [g0, g1, g2]) => EncodeM_any 2 3 3 2 od [g0, g1, g2] (.slice (some ⟨gd, 0, none⟩) 3 3) hdl2 HLT2.out wx h (by rfl))
  have H7 := hid (man_known od hdl2 [g0, g1, g2])
  obtain ⟨M, hM⟩ : ∃ x, x = mcells ((2 : Nat) : Int) ((3 : Nat) : Int) ((3 : Nat) : Int) ((2 : Nat) : Int) od (.slice (some ⟨gd, 0, none⟩) 3 3) := ⟨_, rfl⟩
  rw [← hM] at HML HON HC3
  have HEN := hid (fun (wx : World) (h : DgAt wx (.slice (some ⟨gd, 0, none⟩) 3 3) [g0, g1, g2]) => (show Calls Tryd.prog 22 #[.agg M.toArray] wx fun e w' => ∃ u, e = .returned (.tuple #[u, .int .i64 0]) ∧ ∃ wy, Copied wy (7 + 32 * (1 + 3)) (encTo 2 3 3 2 od [g0, g1, g2] 3) u w' ∧ Below wx.heap.size wx wy from by rw [hM]; exact HEN.out wx h))
  rw [← hM]
  have HIF := hid (show (Tryd.prog.info? 27).map (·.size) = some M.length from by rw [HML.out]; kernel_rfl)
  have HIF2 := hid (show (Tryd.prog.info? 27).map (·.size) = some M.toArray.size from by rw [List.size_toArray, HML.out]; kernel_rfl)
  have HSZ := hid (show mz.size = M.toArray.size from by rw [show M.toArray.size = 37 from by rw [List.size_toArray, HML.out]]; rfl)
  obtain ⟨w9, hw9⟩ : ∃ x, x = w8.alloc (.cells mz 27) := ⟨_, rfl⟩
  have hb9 : Below w8.heap.size w8 w9 := by rw [hw9]; exact (Below.refl _ _).alloc (Nat.le_refl _) _
  have HR9 := hid (show w9.heap[w8.heap.size]? = some (.cells mz 27 (0, 0)) from by rw [hw9]; exact heap_new _ _)
  have hs8 := HB8.out.size
  have HB9 := hid (HB8.out.trans (hb9.mono HB8.out.size))
  have HDG9 := hid (HDG.out.same (hb9.block _ R.gdl))
  have hgd8 := R.gdl
  obtain ⟨mbk, hmbk⟩ : ∃ x, x = w8.heap.size := ⟨_, rfl⟩
  rw [← hmbk] at HR9
  clear hM hdl2 hb9 N R HLT2 HDG
  go_wp2_with (first
    | (refine wpList_store_row (by rfl) 27 (.tmp 1) (.tmp 22) (by rfl) w8.heap.size mz M.toArray 27 (by rfl) (by rfl) (by rw [← hmbk]; exact (by rw [hw9] at HR9; exact HR9.out)) HIF2.out HSZ.out HON.out ?_
       intro wa hwa hka)
    | (refine wpList_load_mid (by rfl) 27 (.tmp 1) (by rfl) w8.heap.size 0 (by rfl) M _ (range_of_heap hwa) Tryd.underlying27 rfl HIF.out ?_))
  have hka : Kept w8.heap.size w9 wa := by rw [hw9]; exact hka
  have HBa := hid (HB9.out.trans (hka.below HB9.out.size hs8))
  have HWA := hid hwa
  have hlt8 : w8.heap.size < wa.heap.size := lt_of_heap hwa
  refine (HEN.out wa (HDG9.out.same (hka.block _ (by rw [hw9]; simp; omega) (by omega)))).mono ?_
  clear hwa hka HEN hw9 HDG9 HR9 hmbk
  rintro e wb ⟨u, rfl, wy, hcp, hby⟩
  obtain ⟨au, cu, rfl, hcu, hbs, hnil, hfar, hbu⟩ := hcp
  have hbb : Below wa.heap.size wa wb := hby.trans (hbu.mono hby.size)
  have c3 := HC3.out wb w8.heap.size ((hbb.block _ hlt8).trans HWA.out)
  have HBb := hid (HBa.out.trans (hbb.mono HBa.out.size))
  have hup := fun w' => upto_run au (7 + 32 * (1 + 3)) cu 7 (by omega) w'
  have hbs7 := bs_upto hbs 7 (by omega)
  rw [H7.out] at hbs7
  have hcv := conv_bs hbs7
  rw [bstr_seven] at hcv
  clear hbb hbu hbs hnil hfar hby hbs7 HC3 H7 HWA
  go_wp2
  go_ret
  exact ⟨rfl, HBb.out⟩
end Go.Proofs.YtahnihihfheegaaDoor

namespace Go.Proofs.YtahnihihfheegaaDoor
open Go Go.RowKit
set_option linter.unusedVariables false

theorem dTo_all {idx ce : Nat → Int} : ∀ {n : Nat}, dTo idx ce n = 0 → ∀ i, i < n → ce i = 0 ∧ occ idx i (idx i) = false
  | 0, _, i, hi => absurd hi (Nat.not_lt_zero i)
  | n + 1, h, i, hi => by
    unfold dTo at h
    by_cases e : dTo idx ce n = 0
    · rw [if_pos e] at h
      by_cases e2 : i = n
      · subst e2
        unfold dStep at h
        by_cases e3 : ce i = 0
        · rw [if_pos e3] at h
          cases ho : occ idx i (idx i) with
          | true => rw [ho] at h; exact absurd h (by decide)
          | false => exact ⟨e3, rfl⟩
        · rw [if_neg e3] at h
          exact absurd h e3
      · exact dTo_all e i (by omega)
    · rw [if_neg e] at h
      exact absurd h e
theorem dAll_zero {k : Int} {idx ce : Nat → Int} {n : Nat} (h : dAll k idx ce n = 0) : dTo idx ce n = 0 ∧ k ≤ (n : Int) := by
  unfold dAll at h
  by_cases e : dTo idx ce n = 0
  · rw [if_pos e] at h
    by_cases e2 : (n : Int) < k
    · rw [if_pos e2] at h; exact absurd h (by decide)
    · exact ⟨e, by omega⟩
  · rw [if_neg e] at h; exact absurd h e
theorem chk_of {k t : Int} {idx ce : Nat → Int} {n : Nat} (h : ∀ i, i < n → 0 ≤ idx i ∧ idx i < t ∧ occ idx i (idx i) = false ∧ ce i = 0) (hk : k ≤ (n : Int)) : chkAll k t idx ce n = 0 := by
  have h1 : ∀ m, m ≤ n → chkTo t idx ce m = 0 := fun m => by
    induction m with
    | zero => intro _; rfl
    | succ m ih =>
      intro hm
      obtain ⟨a1, a2, a3, a4⟩ := h m (by omega)
      refine chkTo_next (ih (by omega)) ?_
      unfold stepE
      rw [if_neg (by omega), a3, if_neg (by decide), a4]
  unfold chkAll
  rw [if_pos (h1 n (Nat.le_refl _)), if_neg (by omega)]
/-- pieces that are right: what rs asks of them -/
theorem rs_right {k n t s : Int} {m : Nat} {D : List (List Nat)} {ps : List (Int × Sl)} {Dd : Nat → List Nat} {pn : Nat} {w : World} (hd : PDat w ps Dd) (hn : pn = ps.length) (h : dAll k (pidx ps) (fun i => cpE k n t s m D (pidx ps i) (Dd i)) pn = 0) :
    chkAll k t (pidx ps) (fun i => if ((plen' ps i : Nat) : Int) = (plen k.toNat s.toNat : Nat) then 0 else 10) pn = 0 ∧ k ≤ (pn : Int) ∧ ∀ i, i < pn → (Dd i).length = plen k.toNat s.toNat ∧ plen' ps i = plen k.toNat s.toNat := by
  obtain ⟨h1, h2⟩ := dAll_zero h
  have h3 : ∀ i, i < pn → (Dd i).length = plen k.toNat s.toNat ∧ plen' ps i = plen k.toNat s.toNat := fun i hi => by
    obtain ⟨_, _, _, _, e, _⟩ := cp_zero (dTo_all h1 i hi).1
    have e2 := (hd i (by omega)).1.len
    rw [plen_at] at e2
    exact ⟨e, by omega⟩
  refine ⟨chk_of (fun i hi => ?_) h2, h2, h3⟩
  obtain ⟨g1, g2⟩ := dTo_all h1 i hi
  obtain ⟨_, e1, e2, _, _, _⟩ := cp_zero g1
  exact ⟨e1, e2, g2, if_pos (by rw [(h3 i hi).2])⟩

/-- the load of a long array behind a guard -/
theorem wpQuiet_load_clsW {P : Program} {ops : Array Oper} {rest : List Oper} {o : Oper} {a : Act} {G : World → Prop} {Q : Act → Prop} (hw : Region.wanted o (yielded ops a.tmps) = true) (ty : TypeId) (x : Operand) (ho : o.op = .load ty x)
    (b off : Nat) (hx : a.eval x = .pointer (some ⟨b, off, none⟩)) (cs : List Value) (d : TypeDesc) (hc : ∀ p : Cls G, p.w.rangeAt b off cs)
    (hu : P.underlying ty = some d) (hd : d.isRow = true) (hi : (P.info? ty).map (·.size) = some cs.length)
    (h : ∀ C, C = cs.toArray → wpQuiet P ops (fun w' => ∃ p : Cls G, w' = p.w) Q rest (a.put o.dst (.agg C))) : wpQuiet P ops (fun w' => ∃ p : Cls G, w' = p.w) Q (o :: rest) a :=
  wpQuiet_step fun K hK => by
    rw [if_pos hw]
    refine ⟨.agg cs.toArray, ?_, hK _ (h _ rfl)⟩
    rintro w' ⟨p, rfl⟩
    have hr := run_loadVar_mid (P := P) p.w b off ty cs d (hc p) hu hd hi
    unfold Oper.quietAt execOp
    simp only [ho, hx, Instr.loadAt, Instr.sureAddr, Sem.run_bind, Sem.run_pure, Result.andThen_ok, hr]
    exact ⟨rfl, rfl⟩
theorem wpList_load_wantA {P : Program} {ops : Array Oper} {rest : List Oper} {op : Oper} {a : Act} {w : World} {Q : Exit → Act → World → Prop} (hw : Region.wanted op (yielded ops a.tmps) = true) (ty : TypeId) (x : Operand) (ho : op.op = .load ty x)
    (b o : Nat) (hx : a.eval x = .pointer (some ⟨b, o, none⟩)) (cs : List Value) (d : TypeDesc) (hc : w.rangeAt b o cs)
    (hu : P.underlying ty = some d) (hd : d.isRow = true) (hi : (P.info? ty).map (·.size) = some cs.length)
    (h : wpList P ops Q rest (a.put op.dst (.agg cs.toArray)) w) : wpList P ops Q (op :: rest) a w :=
  BigFrame.wpList_want hw fun _ hK => wp_load_mid ty x ho b o hx cs d hc hu hd hi (hK _ _ h)
theorem man_range4A {w : World} {b : Nat} {k n t s : Int} {od : List Nat} {v : Value} (h : ManAt w b k n t s od v) : w.rangeAt b 4 (u8s od) := fun j u hj => by
  have h1 := range_of_heapI h (4 + j) u (by
    unfold mcells
    rw [List.append_assoc, List.getElem?_append_right (by simp), List.getElem?_append_left (by simp; exact (List.getElem?_eq_some_iff.1 hj).1)]
    simpa using hj)
  rwa [Nat.zero_add] at h1
/-- the object that pieces determine -/
def objL (k s : Int) (ps : List (Int × Sl)) (Dd : Nat → List Nat) : List Nat := joinL ((List.range k.toNat).map Dd) (places ps k.toNat) (plen k.toNat s.toNat) k.toNat s.toNat
/-- the error of Assemble -/
def asmE (k n t s : Int) (m : Nat) (od : List Nat) (D : List (List Nat)) (ps : List (Int × Sl)) (Dd : Nat → List Nat) (pn : Nat) : Int :=
  if manB k n t s m = true then
    (if dAll k (pidx ps) (fun i => cpE k n t s m D (pidx ps i) (Dd i)) pn = 0 then (if dig shaRound shaStart (objL k s ps Dd) = od then 0 else 20) else dAll k (pidx ps) (fun i => cpE k n t s m D (pidx ps i) (Dd i)) pn)
  else 2
/-- .. and its object -/
def asmL (k n t s : Int) (m : Nat) (od : List Nat) (D : List (List Nat)) (ps : List (Int × Sl)) (Dd : Nat → List Nat) (pn : Nat) : List Nat :=
  if asmE k n t s m od D ps Dd pn = 0 then objL k s ps Dd else []
theorem objL_length (k s : Int) (ps : List (Int × Sl)) (Dd : Nat → List Nat) : (objL k s ps Dd).length = s.toNat := by simp [objL, joinL]
theorem objL_lt {k s : Int} {ps : List (Int × Sl)} {Dd : Nat → List Nat} (h : ∀ i j, i < k.toNat → (Dd i).getD j 0 < 256) : ∀ y ∈ objL k s ps Dd, y < 256 := fun y hy => by
  obtain ⟨z, _, rfl⟩ := List.mem_map.1 hy
  exact joinF_lt (fun i j => by
    by_cases hi : i < k.toNat
    · rw [rmap_getD _ _ _ hi]
      exact h i j hi
    · rw [List.getD_eq_getElem?_getD (l := List.map _ _), List.getElem?_eq_none (by simp; omega)]
      show (0 : Nat) < 256
      omega)
/-- bytes and an error: the bytes lie where they may be read -/
def AsmRes (x : Int) (L : List Nat) (e : Ending) (w' : World) : Prop := ∃ ra rc, e = .returned (.tuple #[.slice ra L.length rc, .int .i64 x]) ∧ Bs w' (.slice ra L.length rc) L ∧ L.length ≤ rc ∧ (ra = none → rc = 0)
theorem asmRes_none (x : Int) (w : World) : AsmRes x [] (.returned (.tuple #[.slice none 0 0, .int .i64 x])) w := ⟨_, _, rfl, bs_nil _, Nat.le_refl _, fun _ => rfl⟩
theorem asmRes_some {O : List Nat} {ob sz : Nat} {w' : World} (hl : O.length = sz) (h : Bs w' (.slice (some ⟨ob, 0, none⟩) sz sz) O) : AsmRes 0 O (.returned (.tuple #[.slice (some ⟨ob, 0, none⟩) sz sz, .int .i64 0])) w' := by
  subst hl
  exact ⟨_, _, rfl, h, Nat.le_refl _, fun h => by cases h⟩
theorem fld_belowA {w w' : World} {fb : Nat} (h : Fld w fb) (k : Below w.heap.size w w') : Fld w' fb := h.elim (fun h => .inl ((k.block _ (lt_of_heap h)).trans h)) (fun h => .inr ((k.block _ (lt_of_heap h)).trans h))

set_option maxRecDepth 100000 in
set_option maxHeartbeats 4000000 in
theorem asm_any (fb : Nat) (w : World) (V : Vars w shaRound shaStart) (k n t s : Int) (od : List Nat) (a : Option Addr) (m c : Nat) (D : List (List Nat)) (ho : od.length = 32) (hD : Dgs w a m c D) (pa : Option Addr) (pn pc : Nat) (ps : List (Int × Sl)) (Dd : Nat → List Nat) (hd : PDat w ps Dd) (hpn : pn ≤ 100000) (hpc : pn ≤ pc) (hF : Fld w fb) (hlo : 3 ≤ fb) (hH : Held fb w (.slice pa pn pc) ps Dd) :
    Calls Tryd.prog 11 #[.pointer (some ⟨fb, 0, none⟩), .agg (mcells k n t s od (.slice a m c)).toArray, .slice pa pn pc] w fun e w' => AsmRes (asmE k n t s m od D ps Dd pn) (asmL k n t s m od D ps Dd pn) e w' ∧ Fld w' fb ∧ Kept fb w w' := by
  obtain ⟨w0, hw0⟩ : ∃ y, y = w.alloc (.cells (mcells k n t s od (.slice a m c)).toArray 27) := ⟨_, rfl⟩
  have HB0 := hid (show Below w.heap.size w w0 from by rw [hw0]; exact (Below.refl _ _).alloc (Nat.le_refl _) _)
  have HM := hid (show ManAt w0 w.heap.size k n t s od (.slice a m c) from by rw [hw0]; exact heap_new _ _)
  have HIF := hid (show (Tryd.prog.info? 27).map (·.size) = some (mcells k n t s od (.slice a m c)).length from by rw [mcells_length _ _ _ _ _ _ ho]; kernel_rfl)
  have HCM := hid (fun wx => CheckManifest_any k n t s od a m c ho wx)
  have HCK := hid (fun (wx : World) (b : Below w.heap.size w wx) => ckp_any wx (V.below b) k n t s od a m c D ho (hD.below b) pa pn pc ps Dd (hH.now.1.below b) (hd.below b) hpn)
  have HRA := hid (range_of_heapI HM.out)
  have hfl := hF.lt
  have HO := hid ho
  have HV := hid V
  have HPD := hid hd
  have HFF := hid hF
  have HH := hid hH
  have HN := hid hH.len
  clear ho V hD hd hF hH
  cases hv : manB k n t s m with
  | false => as_aux_lemma =>
    have HR1 := hid (show asmE k n t s m od D ps Dd pn = 2 from by unfold asmE; rw [hv]; rfl)
    have HR2 := hid (show asmL k n t s m od D ps Dd pn = [] from by unfold asmL; rw [HR1.out]; rfl)
    have hme : manE k n t s m = 2 := by unfold manE; rw [hv]; rfl
    rw [hme] at HCM
    clear hme hv HCK
    go_enter Tryd.func11, Tryd.ntmps11
    go_upto_region 1 with fail
    change Code.wp _ _ _ _ (w.alloc (.cells (mcells k n t s od (.slice a m c)).toArray 27))
    rw [← hw0]
    clear hw0
    go_wp2_with (refine wpList_load_mid (by rfl) 27 (.tmp 4) (by rfl) w.heap.size 0 (by rfl) (mcells k n t s od (.slice a m c)) _ HRA.out Tryd.underlying27 rfl HIF.out ?_)
    refine (HCM.out w0).mono ?_
    rintro e w3 ⟨rfl, hb3⟩
    have HB3 := hid (HB0.out.trans (hb3.mono HB0.out.size))
    clear hb3
    go_wp2
    go_ret2
    exact ⟨by rw [HR1.out, HR2.out]; exact asmRes_none _ _, fld_belowA HFF.out HB3.out, Kept.of_below HB3.out⟩
  | true =>
    have hme : manE k n t s m = 0 := by unfold manE; rw [hv]; rfl
    rw [hme] at HCM
    have hnum : 1 ≤ k ∧ k ≤ n ∧ n ≤ t ∧ t ≤ 255 ∧ 0 ≤ s ∧ s ≤ 8192 := by
      have hok := hv
      unfold manB vnB vcB at hok
      simp only [Bool.and_eq_true, decide_eq_true_eq] at hok
      omega
    have HU := hid (show asmE k n t s m od D ps Dd pn = (if dAll k (pidx ps) (fun i => cpE k n t s m D (pidx ps i) (Dd i)) pn = 0 then (if dig shaRound shaStart (objL k s ps Dd) = od then 0 else 20) else dAll k (pidx ps) (fun i => cpE k n t s m D (pidx ps i) (Dd i)) pn) from by unfold asmE; rw [if_pos hv])
    clear hme hv
    by_cases hda : dAll k (pidx ps) (fun i => cpE k n t s m D (pidx ps i) (Dd i)) pn = 0
    case neg => as_aux_lemma =>
      have HR1 := hid (show asmE k n t s m od D ps Dd pn = dAll k (pidx ps) (fun i => cpE k n t s m D (pidx ps i) (Dd i)) pn from by rw [HU.out, if_neg hda])
      have HR2 := hid (show asmL k n t s m od D ps Dd pn = [] from by unfold asmL; rw [HR1.out, if_neg hda])
      have b1 : (dAll k (pidx ps) (fun i => cpE k n t s m D (pidx ps i) (Dd i)) pn != 0) = true := by simpa using hda
      clear HU hnum hda
      generalize dAll k (pidx ps) (fun i => cpE k n t s m D (pidx ps i) (Dd i)) pn = E at HR1 b1 HCK
      go_enter Tryd.func11, Tryd.ntmps11
      go_upto_region 1 with fail
      change Code.wp _ _ _ _ (w.alloc (.cells (mcells k n t s od (.slice a m c)).toArray 27))
      rw [← hw0]
      clear hw0
      go_wp2_with (refine wpList_load_mid (by rfl) 27 (.tmp 4) (by rfl) w.heap.size 0 (by rfl) (mcells k n t s od (.slice a m c)) _ HRA.out Tryd.underlying27 rfl HIF.out ?_)
      refine (HCM.out w0).mono ?_
      rintro e w3 ⟨rfl, hb3⟩
      have HB3 := hid (HB0.out.trans (hb3.mono HB0.out.size))
      have HR3 := hid (range_below HRA.out hb3)
      clear hb3
      go_wp2_with (refine wpList_load_mid (by rfl) 27 (.tmp 4) (by rfl) w.heap.size 0 (by rfl) (mcells k n t s od (.slice a m c)) _ HR3.out Tryd.underlying27 rfl HIF.out ?_)
      refine (HCK.out w3 HB3.out).mono ?_
      rintro e w4 ⟨rfl, hb4⟩
      have HB4 := hid (HB3.out.trans (hb4.mono HB3.out.size))
      clear hb4
      go_wp2
      go_ret2
      exact ⟨by rw [HR1.out, HR2.out]; exact asmRes_none _ _, fld_belowA HFF.out HB4.out, Kept.of_below HB4.out⟩
    case pos =>
      obtain ⟨hz, hkp, hlen⟩ := rs_right (t := t) HPD.out HN.out hda
      rw [hda] at HCK
      have HDC := hid (fun (wx : World) (b : Below w.heap.size w wx) => Decode_ok fb k.toNat t.toNat s.toNat pa pn pc ps Dd (by omega) (by omega) (by omega) (by omega) hpn hpc wx (fld_belowA HFF.out b) (HH.out.step (Kept.of_below b)) (by rw [show ((k.toNat : Nat) : Int) = k from by omega, show ((t.toNat : Nat) : Int) = t from by omega]; exact hz))
      rw [show ((k.toNat : Nat) : Int) = k from by omega, show ((t.toNat : Nat) : Int) = t from by omega, show ((s.toNat : Nat) : Int) = s from by omega] at HDC
      have hlt : ∀ y ∈ objL k s ps Dd, y < 256 := objL_lt fun i j hi => (HH.out.now.2 i (by have := HN.out; omega)).lt j
      have HLT := hid hlt
      have HUE := hid (show asmE k n t s m od D ps Dd pn = (if dig shaRound shaStart (objL k s ps Dd) = od then 0 else 20) from by rw [HU.out, if_pos hda])
      have HOL := hid (objL_length k s ps Dd)
      obtain ⟨O, hO⟩ : ∃ O, O = objL k s ps Dd := ⟨_, rfl⟩
      have HOO := hid hO
      have HDC2 := hid (fun (wx : World) (b : Below w.heap.size w wx) => (HDC.out wx b).mono (fun e w' (h : ∃ ob, wx.heap.size ≤ ob ∧ e = .returned (.tuple #[.slice (some ⟨ob, 0, none⟩) s.toNat s.toNat, .int .i64 0]) ∧ Own w' ob (objL k s ps Dd) ∧ Built w' fb ∧ Kept fb wx w') => (show ∃ ob, wx.heap.size ≤ ob ∧ e = .returned (.tuple #[.slice (some ⟨ob, 0, none⟩) s.toNat s.toNat, .int .i64 0]) ∧ Bs w' (.slice (some ⟨ob, 0, none⟩) s.toNat s.toNat) (objL k s ps Dd) ∧ Built w' fb ∧ Kept fb wx w' from by
        obtain ⟨ob, h1, h2, h3, h4, h5⟩ := h
        have h6 := h3.bs HLT.out s.toNat
        rw [HOL.out] at h6
        exact ⟨ob, h1, h2, h6, h4, h5⟩)))
      have hob : s.toNat ≤ 8192 := by omega
      rw [← hO] at HUE HLT HOL HDC2
      have hY32 : (dig shaRound shaStart O).length = 32 := dig_length _ _ _
      obtain ⟨Y, hY⟩ : ∃ Y, Y = dig shaRound shaStart O := ⟨_, rfl⟩
      have HSH := hid (fun (wx : World) (V : Vars wx shaRound shaStart) (ob : Nat) (h : Bs wx (.slice (some ⟨ob, 0, none⟩) s.toNat s.toNat) O) => SHA256_any (some ⟨ob, 0, none⟩) s.toNat s.toNat shaRound shaStart O wx V h (Nat.le_refl _) (by omega))
      rw [← hY] at HSH hY32 HUE
      have HEQ := hid (fun wx => eql_any Y od hY32 HO.out wx)
      have HASL := hid (show asmL k n t s m od D ps Dd pn = if asmE k n t s m od D ps Dd pn = 0 then O else [] from by unfold asmL; rw [hO])
      have HIFZ := hid (show (Tryd.prog.info? 24).map (·.size) = some (u8s od).length from by simp only [u8s, List.length_map, HO.out]; kernel_rfl)
      have hq0 : ∀ (q : Bool), q = decide (Y = od) → asmE k n t s m od D ps Dd pn = if q then 0 else 20 := by
        rintro q rfl
        rw [HUE.out]
        by_cases h : Y = od
        · rw [if_pos h, decide_eq_true h]; rfl
        · rw [if_neg h, decide_eq_false h]; rfl
      generalize hq : decide (Y = od) = q at *
      have HQ := hid (hq0 q rfl)
      clear hq0 hq hY hY32 hO HUE HDC hz hkp hlen hda HU hlt
      cases q
      all_goals as_aux_lemma =>
        go_enter Tryd.func11, Tryd.ntmps11
        go_upto_region 1 with fail
        change Code.wp _ _ _ _ (w.alloc (.cells (mcells k n t s od (.slice a m c)).toArray 27))
        rw [← hw0]
        clear hw0
        go_wp2_with (refine wpList_load_mid (by rfl) 27 (.tmp 4) (by rfl) w.heap.size 0 (by rfl) (mcells k n t s od (.slice a m c)) _ HRA.out Tryd.underlying27 rfl HIF.out ?_)
        refine (HCM.out w0).mono ?_
        rintro e w3 ⟨rfl, hb3⟩
        have HB3 := hid (HB0.out.trans (hb3.mono HB0.out.size))
        have HR3 := hid (range_below HRA.out hb3)
        have HM3 := hid ((hb3.block _ (lt_of_heap HM.out)).trans HM.out)
        clear hb3
        go_wp2_with (refine wpList_load_mid (by rfl) 27 (.tmp 4) (by rfl) w.heap.size 0 (by rfl) (mcells k n t s od (.slice a m c)) _ HR3.out Tryd.underlying27 rfl HIF.out ?_)
        refine (HCK.out w3 HB3.out).mono ?_
        rintro e w4 ⟨rfl, hb4⟩
        have HB4 := hid (HB3.out.trans (hb4.mono HB3.out.size))
        have HM4 := hid (show ManAt w4 w.heap.size k n t s od (.slice a m c) from (hb4.block _ (lt_of_heap HM3.out)).trans HM3.out)
        clear hb4
        obtain ⟨c0, -, c2, c3, -⟩ := HM4.out.c HO.out
        go_wp2_with fail
        refine (HDC2.out w4 HB4.out).mono ?_
        rintro e w5 ⟨ob, hob5, rfl, hbs5, hbu5, hk5⟩
        have HK5 := hid ((Kept.of_below (b := fb) HB4.out).trans hk5)
        have HBS5 := hid hbs5
        have HBU := hid (show Fld w5 fb from .inr hbu5)
        have HR5 := hid (man_range4A (show ManAt w5 w.heap.size k n t s od (.slice a m c) from (hk5.block _ (lt_of_heap HM4.out) (by omega)).trans HM4.out))
        have HV5 := hid (HV.out.kept HK5.out hlo)
        have hne : Nonempty (Cls fun w' => Below w5.heap.size w5 w') := ⟨⟨w5, Below.refl _ _⟩⟩
        have HSQ := hid (fun (p : Cls fun w' => Below w5.heap.size w5 w') => HSH.out p.w (HV5.out.below p.h) ob (HBS5.out.below p.h))
        have HRQ := hid (fun (p : Cls fun w' => Below w5.heap.size w5 w') => range_below HR5.out p.h)
        have e1 := fun wx => HEQ.out wx
        clear hk5 hbs5 hbu5 c0 c2 c3
        go_upto_region 10 with fail
        refine wp_region_class_lit (G := fun w' => Below w5.heap.size w5 w') (by kernel_rfl) (by kernel_rfl) (bel_drewN (Below.refl _ _) 1) ?_
        iterate 6 (go_big_quiet_step ((go_at_call 18; exact Calls.cls (HSQ.out _))))
        refine wpQuiet_load_clsW (by rfl) 24 (.tmp 42) (by rfl) w.heap.size 4 (by rfl) (u8s od) _ HRQ.out Tryd.underlying24 rfl HIFZ.out ?_
        rintro _ rfl
        try simp only [Act.put, List.setIfInBounds_toArray, List.set_cons_zero, List.set_cons_succ]
        repeat (go_big_quiet_step ((go_at_call 18; exact Calls.cls (HSQ.out _))))
        refine wpQuiet_nil ?_
        rintro _ ⟨⟨wp, hwp⟩, rfl⟩
        have HBP := hid hwp
        have HFP := hid (fld_belowA HBU.out hwp)
        have HKP := hid (HK5.out.trans (Kept.of_below hwp))
        have HBSP := hid (HBS5.out.below hwp)
        clear hwp e1 HSQ HRQ hne
        go_wp2
        go_ret2
        refine ⟨?_, HFP.out, HKP.out⟩
        rw [HASL.out, HQ.out]
        first
          | exact asmRes_none _ _
          | exact asmRes_some HOL.out HBSP.out
end Go.Proofs.YtahnihihfheegaaDoor

namespace Go.Proofs.YtahnihihfheegaaDoor
open Go Go.RowKit
set_option linter.unusedVariables false

theorem MineI.pdat {w wr : World} {v : Value} {n : Nat} {ps qs : List (Int × Sl)} {D : Nat → List Nat} (h : MineI w wr v n ps qs D) (hD : ∀ i, i < n → ∀ x ∈ D i, x < 256) (hs : ∀ i, i < n → plen' ps i ≤ 800000000) : PDat wr qs D := fun i hi => by
  have hlen := h.len
  obtain ⟨a, c, e, _, hc, hb, _⟩ := bs_of_owns (h.data i hi) (hD i (by omega))
  have hnil := nil_ownsJ (h.data i hi)
  have hl := (h.same i (by omega)).2
  have hl2 := plen_at qs i hi
  simp only [Value.slice.injEq] at e
  refine ⟨hb, by rw [e.2.2]; exact hc, hnil, ?_⟩
  have := hs i (by omega)
  omega
theorem MineI.held {fb : Nat} {w wr : World} {v : Value} {n : Nat} {ps qs : List (Int × Sl)} {D : Nat → List Nat} (h : MineI w wr v n ps qs D) (hD : ∀ i, i < n → ∀ x ∈ D i, x < 256) (hfb : fb < w.heap.size) : ∃ a' c', v = .slice a' n c' ∧ n ≤ c' ∧ Held fb wr (.slice a' n c') qs D := by
  have hlen := h.len
  obtain ⟨a', c', rfl, hc, _, _⟩ := h.reads hD
  refine ⟨a', c', rfl, hc, fun w' k => ?_⟩
  have hg : wr.grownBy w' (some fb) := ⟨k.os, k.tape, k.output, k.size, fun q hq hne => k.block q hq (fun e => hne (congrArg some e))⟩
  have hoff : ∀ {e : TypeId} {s m : Nat} {u : Value} {xs : List Value}, wr.ownsRow w.heap.size e s u m xs → w'.ownsRow w.heap.size e s u m xs := fun {e s m u xs} ho => ho.kept hg (by
    cases hob : u.ownBlock with
    | none => exact .inl rfl
    | some q =>
      right
      intro e2
      have h5 := (ho.lt q hob).1
      have h6 := Option.some.inj e2
      omega)
  have ho := hoff h.own
  have hdat : ∀ i, (h : i < qs.length) → Bs w' (.slice qs[i].2.1 qs[i].2.2.1 qs[i].2.2.2) (D i) := fun i hi => by
    obtain ⟨a, c, e, _, _, hb, _⟩ := bs_of_owns (hoff (h.data i hi)) (hD i (by omega))
    exact hb
  refine ⟨?_, hdat⟩
  rcases ho.2 with ⟨h1, h0⟩ | ⟨g, cap, cur, h1, h3, h4, h5, _⟩
  · subst h0
    have hq : qs = [] := List.eq_nil_of_length_eq_zero hlen
    subst hq
    rw [h1]
    exact ⟨none, 0, rfl, fun e => absurd rfl e⟩
  · rw [h1] at ho ⊢
    have h6 := ps_of_owns (c := cap) ho (show n ≤ qs.length by omega)
    rw [List.take_of_length_le (by omega)] at h6
    exact h6
/-- a copy's answers are those of the original -/
theorem mine_fns {w wr : World} {v : Value} {n : Nat} {ps qs : List (Int × Sl)} {D : Nat → List Nat} (h : MineI w wr v n ps qs D) (hn : n = ps.length) (k nn t s : Int) (m : Nat) (od : List Nat) (Dm : List (List Nat)) :
    asmE k nn t s m od Dm qs D n = asmE k nn t s m od Dm ps D n ∧ asmL k nn t s m od Dm qs D n = asmL k nn t s m od Dm ps D n := by
  obtain ⟨f1, f2⟩ := h.fns hn
  have f3 : objL k s qs D = objL k s ps D := by unfold objL; rw [places_fn f1]
  have f4 : asmE k nn t s m od Dm qs D n = asmE k nn t s m od Dm ps D n := by unfold asmE; rw [f1, f3]
  exact ⟨f4, by unfold asmL; rw [f4, f3]⟩
end Go.Proofs.YtahnihihfheegaaDoor

namespace Go.Proofs.YtahnihihfheegaaDoor
open Go Go.RowKit
set_option linter.unusedVariables false

set_option maxRecDepth 100000 in
set_option maxHeartbeats 4000000 in
theorem rkp_any (w : World) (R : Rnds w) (k n t s : Int) (od : List Nat) (a : Option Addr) (m c : Nat) (D : List (List Nat)) (ho : od.length = 32) (hD : Dgs w a m c D) (pa : Option Addr) (pn pc : Nat) (ps : List (Int × Sl)) (Dd : Nat → List Nat) (hp : Ps w (.slice pa pn pc) ps) (hd : PDat w ps Dd) (hpn : pn ≤ 100000) :
    Calls Tryd.prog 29 #[.agg (mcells k n t s od (.slice a m c)).toArray, .slice pa pn pc] w fun e w' => e = .returned (.int .i64 (dAll k (pidx ps) (fun i => cpE k n t s m D (pidx ps i) (Dd i)) pn)) ∧ Below w.heap.size w w' := by
  obtain ⟨ce, hce⟩ : ∃ ce : Nat → Int, ce = fun i => cpE k n t s m D (pidx ps i) (Dd i) := ⟨_, rfl⟩
  have HCE := hid hce
  rw [← hce]
  obtain ⟨w0, hw0⟩ : ∃ y, y = w.alloc (.cells (mcells k n t s od (.slice a m c)).toArray 27) := ⟨_, rfl⟩
  have HB0 := hid (show Below w.heap.size w w0 from by rw [hw0]; exact (Below.refl _ _).alloc (Nat.le_refl _) _)
  have HM := hid (show ManAt w0 w.heap.size k n t s od (.slice a m c) from by rw [hw0]; exact heap_new _ _)
  have HIF := hid (show (Tryd.prog.info? 27).map (·.size) = some (mcells k n t s od (.slice a m c)).length from by rw [mcells_length _ _ _ _ _ _ ho]; kernel_rfl)
  have HK0 := hid (HM.out.c ho).1
  have HO := hid ho
  have HR := hid R
  have HDD := hid hD
  have HP := hid hp
  have HD := hid hd
  have HN := hid (show pn = ps.length from by obtain ⟨_, _, h, _⟩ := hp; simp at h; exact h.2.1)
  clear hce ho R hD hp hd
  go_enter Tryd.func29, Tryd.ntmps29
  go_upto_region 1 with fail
  change Code.wp _ _ _ _ (w.alloc (.cells (mcells k n t s od (.slice a m c)).toArray 27))
  rw [← hw0]
  clear hw0
  go_wp2
  go_loopw [5] (fun iv wr => ∃ i : Nat, i ≤ pn ∧ iv = .int .i64 i ∧ Hid (Below w0.heap.size w0 wr) ∧ Hid (dTo (pidx ps) ce i = 0)) (fun iv _ => pn - (intOf iv).toNat)
  case atStart => exact ⟨0, by omega, rfl, hid (Below.refl _ _), hid rfl⟩
  case round =>
    obtain ⟨i, hi, rfl, HB, HCL⟩ := hrel
    have HBr := hid (HB0.out.trans (HB.out.mono HB0.out.size))
    by_cases hlt : i < pn
    · have HPr := HP.out.below HBr.out
      obtain ⟨b, o, rfl⟩ : ∃ b o, pa = some ⟨b, o, none⟩ := by
        obtain ⟨a', c', h1, h3⟩ := HPr
        obtain ⟨b, o, ha, _⟩ := h3 (by intro e; rw [e] at HN; have := HN.out; simp at this; omega)
        simp at h1
        exact ⟨b, o, h1.1.trans ha⟩
      have hil : i < ps.length := by rw [← HN.out]; exact hlt
      obtain ⟨q0, q1⟩ := HPr.cells i hil
      obtain ⟨hbs, hcap, hnil, hsz⟩ := HD.out i hil
      rw [pidx_at] at q0
      have HDi := hid hbs
      have HNi := hid hnil
      clear HPr hbs hnil
      generalize hdx : pidx ps i = x at *
      generalize (ps[i]'_).2.1 = da at *
      generalize (ps[i]'_).2.2.1 = dn at *
      generalize (ps[i]'_).2.2.2 = dc at *
      have HX := hid hdx
      clear hdx
      obtain ⟨wo, rfl⟩ : ∃ wo : World, wo = wr := ⟨_, rfl⟩
      have hne : Nonempty (Cls fun w' => Below wo.heap.size wo w') := ⟨⟨wo, Below.refl _ _⟩⟩
      have hb0 := World.block_lt_of_cell? _ _ q0
      have f0 : ∀ p : Cls (fun w' => Below wo.heap.size wo w'), p.w.cell? ⟨b, o + i * 2, none⟩ = some (.int .i64 x) := fun p => (p.h.cell hb0).trans q0
      have f1 : ∀ p : Cls (fun w' => Below wo.heap.size wo w'), p.w.cell? ⟨b, o + i * 2 + 1, none⟩ = some (.slice da dn dc) := fun p => (p.h.cell (World.block_lt_of_cell? _ _ q1)).trans q1
      have HRQ := hid (fun (p : Cls (fun w' => Below wo.heap.size wo w')) => range_below (range_of_heapI ((HB.out.block _ (lt_of_heap HM.out)).trans HM.out)) p.h)
      have HCP := hid (fun (p : Cls (fun w' => Below wo.heap.size wo w')) => (rchp_any p.w (HR.out.below (HBr.out.trans (p.h.mono HBr.out.size))) k n t s od a m c D HO.out (HDD.out.below (HBr.out.trans (p.h.mono HBr.out.size))) x da dn dc (Dd i) (HDi.out.below (HBr.out.trans (p.h.mono HBr.out.size))) hcap HNi.out hsz).mono (fun e w' h => (show e = .returned (.int .i64 (ce i)) ∧ Below p.w.heap.size p.w w' from ⟨by rw [h.1, HCE.out]; exact congrArg (fun y => Ending.returned (.int .i64 (cpE k n t s m D y (Dd i)))) HX.out.symm, h.2⟩)))
      clear q0 q1
      obtain ⟨E, hE⟩ : ∃ E, E = ce i := ⟨_, rfl⟩
      rw [← hE] at HCP
      have HE := hid hE
      clear hE
      have hi0 : (0 : Int) ≤ (i : Int) := by omega
      have hin : (i : Int) < (pn : Int) := by omega
      go_upto_region 4 with fail
      refine wp_region_class_lit (G := fun w' => Below wo.heap.size wo w') (by kernel_rfl) (by kernel_rfl) (bel_drewN (Below.refl _ _) 1) ?_
      refine wpQuiet_load_cls (by rfl) 27 (.tmp 2) (by rfl) w.heap.size 0 (by rfl) (mcells k n t s od (.slice a m c)) _ HRQ.out Tryd.underlying27 rfl HIF.out ?_
      rintro _ rfl
      try simp only [Act.put, List.setIfInBounds_toArray, List.set_cons_zero, List.set_cons_succ]
      repeat (go_big_quiet_step ((go_at_call 55; exact Calls.cls (HCP.out _))))
      refine wpQuiet_nil ?_
      rintro _ ⟨⟨wp, hwp⟩, rfl⟩
      have HBp := hid (HB.out.trans (hwp.mono HB.out.size))
      have HBpw := hid (HB0.out.trans (HBp.out.mono HB0.out.size))
      clear hwp f0 f1 HRQ HCP hne
      by_cases hc0 : E = 0
      · subst hc0
        go_wp2
        go_loopw [7] (fun jv wx => ∃ j : Nat, j ≤ i ∧ jv = .int .i64 j ∧ Hid (Below w0.heap.size w0 wx) ∧ Hid (∀ j', j' < j → pidx ps j' ≠ x)) (fun jv _ => i - (intOf jv).toNat)
        case atStart => exact ⟨0, by omega, rfl, HBp, hid fun j' h => absurd h (Nat.not_lt_zero _)⟩
        case round =>
          clear HBp HBpw
          obtain ⟨j, hj, rfl, HBp, HNE⟩ := hrel
          have HBpw := hid (HB0.out.trans (HBp.out.mono HB0.out.size))
          by_cases hlt2 : j < i
          · have p0 := ((HP.out.below HBpw.out).cells j (by omega)).1
            have p1 := ((HP.out.below HBpw.out).cells i hil).1
            rw [pidx_at] at p0 p1
            rw [HX.out] at p1
            generalize hdy : pidx ps j = y at *
            have HY := hid hdy
            clear hdy
            have hj0 : (0 : Int) ≤ (j : Int) := by omega
            have hjn : (j : Int) < (pn : Int) := by omega
            by_cases he : y = x
            · have HST := hid (show dAll k (pidx ps) ce pn = 7 from by
                have h2 : dStep (pidx ps) ce i = 7 := by
                  unfold dStep
                  rw [if_pos HE.out.symm, if_pos ((occ_iff _ _ _).2 ⟨j, hlt2, (HY.out.trans he).trans HX.out.symm⟩)]
                rw [dAll_stop HCL.out (by rw [h2]; decide) hlt, h2])
              have b1 : (y == x) = true := by simpa using he
              clear he
              go_wp2
              go_quiet (fail)
              go_wp2
              go_ret
              exact ⟨ret_int HST.out.symm, bel_drewN HBpw.out _⟩
            · have b1 : (y == x) = false := by simpa using he
              have HNE2 := hid (show ∀ j', j' < j + 1 → pidx ps j' ≠ x from fun j' h => by
                by_cases e : j' = j
                · rw [e, HY.out]; exact he
                · exact HNE.out j' (by omega))
              clear he
              go_wp2
              go_quiet (fail)
              have HB2 := hid (bel_drewN HBp.out nq)
              go_wp2
              exact ⟨⟨j + 1, by omega, by go_num, HB2, HNE2⟩, by simp [intOf]; omega⟩
          · obtain rfl : j = i := by omega
            have HNX := hid (show dTo (pidx ps) ce (j + 1) = 0 from dTo_next HCL.out (by
              unfold dStep
              rw [if_pos HE.out.symm, if_neg]
              intro e
              obtain ⟨j', h1, h2⟩ := (occ_iff _ _ _).1 e
              exact HNE.out j' h1 (h2.trans HX.out)))
            go_wp2
            exact ⟨⟨j + 1, by omega, by go_num, HBp, HNX⟩, by simp [intOf]; omega⟩
      · have HST := hid (show dAll k (pidx ps) ce pn = E from by
          have h2 : dStep (pidx ps) ce i = E := by unfold dStep; rw [if_neg (by rw [← HE.out]; exact hc0), ← HE.out]
          rw [dAll_stop HCL.out (by rw [h2]; exact hc0) hlt, h2])
        have b1 : (E != 0) = true := by simpa using hc0
        clear hc0
        go_wp2
        go_ret
        exact ⟨ret_int HST.out.symm, HBpw.out⟩
    · obtain rfl : i = pn := by omega
      have c0 : wr.cell? ⟨w.heap.size, 0, none⟩ = some (.int .i64 k) := (HB.out.cell (p := ⟨w.heap.size, 0, none⟩) (lt_of_heap HM.out)).trans HK0.out
      by_cases hk : (i : Int) < k
      · have HST := hid (show dAll k (pidx ps) ce i = 12 from by unfold dAll; rw [if_pos HCL.out, if_pos hk])
        go_wp2
        go_ret
        exact ⟨ret_int HST.out.symm, HBr.out⟩
      · have HST := hid (show dAll k (pidx ps) ce i = 0 from by unfold dAll; rw [if_pos HCL.out, if_neg hk])
        go_wp2
        go_ret
        exact ⟨ret_int HST.out.symm, HBr.out⟩
end Go.Proofs.YtahnihihfheegaaDoor
