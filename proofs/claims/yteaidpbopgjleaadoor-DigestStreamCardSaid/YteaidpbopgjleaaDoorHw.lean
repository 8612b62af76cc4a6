/-
  Write: bytes taken into a Hash.
-/
import Derived.Test.YteaidpbopgjleaaDoorHw1
namespace Go.Proofs.YteaidpbopgjleaaDoor
open Go Go.RowKit
set_option linter.unusedVariables false

def slLen : Value → Nat | .slice _ n _ => n | _ => 0
theorem bs_nilH (w : World) (a : Option Addr) (c : Nat) : Bs w (.slice a 0 c) [] := ⟨a, c, rfl, fun n hn => absurd hn List.not_mem_nil, fun e => absurd rfl e⟩
/-- what follows the first k bytes -/
theorem bs_from {w : World} {a : Option Addr} {n c : Nat} {l : List Nat} (h : Bs w (.slice a n c) l) (hn : 1 ≤ n) (hc : n ≤ c) (k : Nat) (hk : k ≤ n) :
    ∃ a' c', (∀ w', (Instr.sliceAt 26 (.slice a n c) (some (.int .i64 (k : Int))) none none).run Tryd.prog w' = .ok (.slice a' (n - k) c') w') ∧ Bs w (.slice a' (n - k) c') (l.drop k) ∧ n - k ≤ c' ∧ (a' = none → c' = 0) ∧ (∀ fb, Off fb (.slice a n c) → Off fb (.slice a' (n - k) c')) := by
  have hlen := h.len
  have hlt := h.lt
  obtain ⟨b, o, rfl⟩ : ∃ b o, a = some ⟨b, o, none⟩ := by
    rcases h.addr with ⟨h0, _⟩ | ⟨_, b, o', c', hv⟩
    · rw [h0] at hlen; simp at hlen; omega
    · simp only [Value.slice.injEq] at hv
      exact ⟨b, o', hv.1⟩
  have u1 : (0 : Int) ≤ (k : Int) := by omega
  have u2 : (k : Int) ≤ (n : Int) := by omega
  by_cases e : c = k
  · have e2 : n = k := by omega
    subst e2
    subst e
    refine ⟨some ⟨b, o, none⟩, 0, fun w' => by simp [go_sem, Tryd.underlying26], ?_, by omega, (fun h => by cases h), fun fb hf => hf⟩
    rw [Nat.sub_self, List.drop_eq_nil_of_le (by omega)]
    exact bs_nilH _ _ _
  · have u3 : (⟨b, o, none⟩ : Addr).add k = ⟨b, o + k, none⟩ := by unfold Addr.add; split <;> simp_all
    refine ⟨some ⟨b, o + k, none⟩, c - k, fun w' => by simp [go_sem, Tryd.underlying26, u2, e], ⟨_, c - k, by rw [List.length_drop, ← hlen], fun x hx => ?_, fun _ => ⟨b, o + k, rfl, fun i hi => ?_⟩⟩, by omega, (fun h => by cases h), fun fb hf => hf⟩
    · obtain ⟨j, hj, rfl⟩ := List.getElem_of_mem (List.mem_of_mem_drop hx)
      have := hlt j
      rwa [List.getD_eq_getElem?_getD, List.getElem?_eq_getElem hj] at this
    · rw [List.length_drop] at hi
      have h1 := h.cell (k + i) (by omega)
      rw [List.getD_eq_getElem?_getD, List.getElem?_drop, ← List.getD_eq_getElem?_getD, Nat.add_assoc]
      exact h1
theorem HashAt.set_size {w : World} {hb : Nat} {h c : List Nat} {size : Nat} (H : HashAt w hb h c size) (s : Nat) : HashAt (w.setCell ⟨hb, 72, none⟩ (.int .i64 (s : Int))) hb h c s := by
  have h1 := heap_set H.at_ 72 (.int .i64 s)
  refine ⟨?_, H.hl, H.cl, H.ho, H.co⟩
  rw [h1]
  have h2 : (u32s h).length = 8 := by rw [u32s_length, H.hl]
  have h3 : (u8s c).length = 64 := by simp [u8s, H.cl]
  unfold hcells
  rw [List.setIfInBounds_toArray, List.set_append_right _ _ (by omega), h2, List.set_append_right _ _ (by omega), h3]
  rfl
theorem chunk_slice (hb r : Nat) (hr : r < 64) (w : World) : (Instr.sliceAt 80 (.pointer (some ⟨hb, 8, none⟩)) (some (.int .i64 (r : Int))) none none).run Tryd.prog w = .ok (.slice (some ⟨hb, 8 + r, none⟩) (64 - r) (64 - r)) w := by
  have u1 : (r : Int) ≤ 64 := by omega
  have u2 : r ≤ 64 := by omega
  have u3 : (⟨hb, 8, none⟩ : Addr).add r = ⟨hb, 8 + r, none⟩ := by unfold Addr.add; split <;> simp_all
  have u4 : ¬ 64 = r := by omega
  simp [go_sem, Instr.sliceAt, Instr.slice, run_underlying Tryd.underlying80, u1, u4]

/-- what the loop of Write keeps -/
structure WrI (w wr : World) (hb : Nat) (KC SH m l : List Nat) (i n : Nat) (a' : Option Addr) (c' : Nat) : Prop where
  bs : Bs w (.slice a' (n - i) c') (l.drop i)
  cap : n - i ≤ c'
  off : Off hb (.slice a' (n - i) c')
  msg : MsgAt wr hb KC SH (m ++ l.take i)
  kept : Kept hb w wr

theorem WrI.next {w wr w2 : World} {hb : Nat} {KC SH m l : List Nat} {i n k : Nat} {a' a2 : Option Addr} {c' c2 : Nat} (h : WrI w wr hb KC SH m l i n a' c') (hb2 : Bs w (.slice a2 (n - i - k) c2) ((l.drop i).drop k)) (hc2 : n - i - k ≤ c2) (ho2 : Off hb (.slice a2 (n - i - k) c2))
    (hm : MsgAt w2 hb KC SH ((m ++ l.take i) ++ (l.drop i).take k)) (hk : Kept hb wr w2) : WrI w w2 hb KC SH m l (i + k) n a2 c2 := by
  refine ⟨?_, by omega, ?_, ?_, h.kept.trans hk⟩
  · rw [Nat.sub_add_eq, ← List.drop_drop]; exact hb2
  · rw [Nat.sub_add_eq]; exact ho2
  · rw [List.take_add, ← List.append_assoc]; exact hm
set_option maxRecDepth 100000 in
set_option maxHeartbeats 4000000 in
theorem Write_any (hb n c : Nat) (a : Option Addr) (KC SH m l : List Nat) (w : World) (M : MsgAt w hb KC SH m) (V : Vars w KC SH) (h3 : 2 ≤ hb) (hl : Bs w (.slice a n c) l) (hc : n ≤ c) (ho : Off hb (.slice a n c)) (hsz : m.length + n ≤ 1000000000) :
    Calls Tryd.prog 11 #[.pointer (some ⟨hb, 0, none⟩), .slice a n c] w fun e w' => e = .returned (.tuple #[]) ∧ MsgAt w' hb KC SH (m ++ l) ∧ Kept hb w w' := by
  have HLN := hid hl.len
  have HV := hid V
  have h0 : WrI w w hb KC SH m l 0 n a c := ⟨by rw [List.drop_zero, Nat.sub_zero]; exact hl, by omega, by rw [Nat.sub_zero]; exact ho, by rw [List.take_zero, List.append_nil]; exact M, Kept.refl _ _⟩
  have HI := hid h0
  clear M V hl ho h0
  go_enter Tryd.func11, Tryd.ntmps11
  go_wp2
  go_loopw [1] (fun bv wr => ∃ (i : Nat) (a' : Option Addr) (c' : Nat), i ≤ n ∧ bv = .slice a' (n - i) c' ∧ Hid (WrI w wr hb KC SH m l i n a' c')) (fun bv _ => slLen bv)
  case atStart => exact ⟨0, a, c, by omega, by rw [Nat.sub_zero], HI⟩
  case round =>
    clear HI
    obtain ⟨i, a', c', hi, rfl, HI⟩ := hrel
    obtain ⟨nn, hnn⟩ : ∃ nn, nn = n - i := ⟨_, rfl⟩
    rw [← hnn]
    by_cases h0 : 0 < nn
    · have hN : (0 : Int) < (nn : Int) := by omega
      obtain ⟨h, ch, H, e1, e2⟩ := HI.out.msg
      have hlt : (m ++ l.take i).length = m.length + i := by rw [List.length_append, List.length_take]; have := HLN.out; omega
      have hbs := HI.out.bs
      have hcap := HI.out.cap
      have hoff := HI.out.off
      rw [← hnn] at hbs hcap hoff
      generalize hm2 : m ++ l.take i = m2 at *
      obtain ⟨sz, hszz⟩ : ∃ sz, sz = m2.length := ⟨_, rfl⟩
      obtain ⟨r, hr⟩ : ∃ r, r = sz % 64 := ⟨_, rfl⟩
      obtain ⟨k, hk⟩ : ∃ k, k = Nat.min nn (64 - r) := ⟨_, rfl⟩
      have hr64 : r < 64 := by omega
      have hk1 : k ≤ nn := by rw [hk]; exact Nat.min_le_left _ _
      have hk2 : k ≤ 64 - r := by rw [hk]; exact Nat.min_le_right _ _
      have hk3 : 1 ≤ k := by rw [hk]; exact Nat.le_min.2 ⟨h0, by omega⟩
      have hk4 : k = nn ∨ k = 64 - r := by rw [hk]; rcases Nat.le_total nn (64 - r) with h | h; exact .inl (Nat.min_eq_left h); exact .inr (Nat.min_eq_right h)
      have hbr := hbs.kept HI.out.kept hoff
      obtain ⟨a2, c2, hs2, hb2, hcap2, hnil2, hoff2⟩ := bs_from hbs (by omega) hcap k hk1
      have hdl : (l.drop i).length = nn := by rw [List.length_drop, hnn]; have := HLN.out; omega
      rw [← hszz] at H
      have c72 := H.size_
      have hrem : ((sz : Int)).tmod 64 = (r : Int) := by rw [Int.tmod_eq_emod_of_nonneg (by omega)]; omega
      have hch := chunk_slice hb r hr64
      have HH := hid H
      have HBR := hid hbr
      have HE1 := hid (fun (_ : Unit) => e1)
      have HE2 := hid e2
      have HHB := hid hb2
      have HKK := hid hk
      have HO2 := hid hoff2
      have HSZ := hid hszz
      have HRR := hid hr
      have HNN := hid hnn
      have HOF := hid hoff
      have HDL := hid hdl
      have HM2 := hid (fun (_ : Unit) => hm2)
      have hrw : IntKind.i64.wrap (r : Int) = (r : Int) := by rw [IntKind.wrap_i64]; omega
      have hsum : IntKind.i64.wrap ((sz : Int) + (k : Int)) = ((sz + k : Nat) : Int) := by rw [IntKind.wrap_i64]; omega
      have hsz3 : sz + k ≤ 1000000000 := by omega
      clear H hbr e1 e2 hb2 hk hoff2 hszz hr hnn hm2 hoff hbs hdl hlt
      obtain ⟨sk, hsk⟩ : ∃ sk, sk = sz + k := ⟨_, rfl⟩
      rw [← hsk] at hsum hsz3
      have HSK := hid hsk
      clear hsk
      go_wp2
      go_region_held3 (fun w' => w'.cell? ⟨hb, 72, none⟩ = some (.int .i64 (sz : Int)))
        (first | exact HH.out.size_ | exact H5.out.size_)
        (first
          | (refine step_copy_hash (by rfl) (.tmp 18) (.tmp 19) (by rfl) hb r sz nn k h ch (HH.out.same rfl) hr64 (by rfl) a' c' (by rfl) (l.drop i) (HBR.out.drewN 1) h0 HKK.out ?_
             intro w5 hH5 hk5
             have H5 := hid hH5
             have K5 := hid hk5))
      all_goals
        have c73 := H5.out.size_
        have f73 := H5.out.free 72
        have H6 := hid (H5.out.set_size sk)
        have K6 := hid ((((Kept.refl hb wr).drewN 1).trans K5.out).setCell (p := ⟨hb, 72, none⟩) rfl (.int .i64 (sk : Int)))
        have V6 := hid (HV.out.kept (HI.out.kept.trans K6.out) h3)
        have hlk : ((l.drop i).take k).length = k := by rw [List.length_take, HDL.out]; omega
        have hskl : sk = (m2 ++ (l.drop i).take k).length := by rw [List.length_append, hlk, ← HSZ.out]; exact HSK.out
        have HKL := hid hlk
        have HSKL := hid hskl
        clear hlk hskl c72
        by_cases hfull : r + k = 64
        · have t1 : ((sk : Int)).tmod 64 = 0 := by have h1 := HSK.out; have h2 := HRR.out; rw [Int.tmod_eq_emod_of_nonneg (by omega)]; omega
          go_wp2_with fail
          refine (compress_any hb sk h _ KC SH _ H6.out V6.out h3).mono ?_
          rintro e w8 ⟨rfl, hH8, hk8⟩
          have HM8 := hid (show MsgAt w8 hb KC SH (m2 ++ (l.drop i).take k) from msg_full (h := h) HH.out.cl (HE1.out ()) HE2.out (by rw [← HSZ.out, ← HRR.out, HKL.out]; exact hfull) (by rw [← HSZ.out, ← HRR.out, ← HSKL.out]; exact hH8))
          have HWN := hid (show WrI w w8 hb KC SH m l (i + k) n a2 c2 from HI.out.next (by rw [← HNN.out]; exact HHB.out) (by rw [← HNN.out]; exact hcap2) (by rw [← HNN.out]; exact HO2.out hb HOF.out) (by rw [HM2.out ()]; exact HM8.out) (K6.out.trans hk8))
          have hnx : nn - k = n - (i + k) := by have := HNN.out; omega
          have hik : i + k ≤ n := by have := HNN.out; omega
          have hms : slLen (.slice a2 (n - (i + k)) c2) < nn := by show n - (i + k) < nn; have := HNN.out; omega
          clear hH8 hk8
          go_wp2
          exact ⟨⟨i + k, a2, c2, hik, rfl, HWN⟩, hms⟩
        · have hlt64 : r + k < 64 := by omega
          have t1 : ((sk : Int)).tmod 64 = ((r + k : Nat) : Int) := by have h1 := HSK.out; have h2 := HRR.out; rw [Int.tmod_eq_emod_of_nonneg (by omega)]; omega
          obtain ⟨rk, hrk⟩ : ∃ rk, rk = r + k := ⟨_, rfl⟩
          rw [← hrk] at t1
          have t2 : IntKind.i64.wrap (rk : Int) = (rk : Int) := by rw [IntKind.wrap_i64]; omega
          have t3 : ((rk : Int) == 0) = false := by simp; omega
          have HM8 := hid (fun w8 (hH8 : HashAt w8 hb h (putL ch r ((l.drop i).take k)) sk) => (show MsgAt w8 hb KC SH (m2 ++ (l.drop i).take k) from msg_part (h := h) (by rw [← HSZ.out, ← HRR.out, ← HSKL.out]; exact hH8) HH.out.cl (HE1.out ()) HE2.out (by rw [← HSZ.out, ← HRR.out, HKL.out]; exact hlt64)))
          have HWN := hid (show WrI w _ hb KC SH m l (i + k) n a2 c2 from HI.out.next (by rw [← HNN.out]; exact HHB.out) (by rw [← HNN.out]; exact hcap2) (by rw [← HNN.out]; exact HO2.out hb HOF.out) (by rw [HM2.out ()]; exact HM8.out _ H6.out) K6.out)
          have hnx : nn - k = n - (i + k) := by have := HNN.out; omega
          have hik : i + k ≤ n := by have := HNN.out; omega
          have hms : slLen (.slice a2 (n - (i + k)) c2) < nn := by show n - (i + k) < nn; have := HNN.out; omega
          clear hrk
          go_wp2
          exact ⟨⟨i + k, a2, c2, hik, rfl, HWN⟩, hms⟩
    · have hn0 : nn = 0 := by omega
      have hin : i = n := by omega
      have hfin := HI.out.msg
      rw [hin, List.take_of_length_le (by have := HLN.out; omega)] at hfin
      have hkk := HI.out.kept
      clear hnn
      subst hn0
      go_wp2
      go_end0
      exact ⟨rfl, hfin, hkk⟩
theorem Write_gen (hb n c : Nat) (a : Option Addr) (KC SH m l : List Nat) (w : World) (M : MsgAt w hb KC SH m) (V : Vars w KC SH) (h3 : 2 ≤ hb) (hl : Bs w (.slice a n c) l) (hc : n ≤ c) (ho : 0 < n → Off hb (.slice a n c)) (hsz : m.length + n ≤ 1000000000) :
    Calls Tryd.prog 11 #[.pointer (some ⟨hb, 0, none⟩), .slice a n c] w fun e w' => e = .returned (.tuple #[]) ∧ MsgAt w' hb KC SH (m ++ l) ∧ Kept hb w w' := by
  by_cases h0 : 0 < n
  · exact Write_any hb n c a KC SH m l w M V h3 hl hc (ho h0) hsz
  · obtain rfl : n = 0 := by omega
    have hl0 : l = [] := List.eq_nil_of_length_eq_zero hl.len.symm
    subst hl0
    have HM := hid M
    clear M V hl
    go_enter Tryd.func11, Tryd.ntmps11
    go_wp2
    go_loop [1] (fun bv => bv = .slice a 0 c) (fun bv => slLen bv)
    case atStart => rfl
    case round =>
      obtain rfl := hrel
      go_wp2
      go_end0
      exact ⟨rfl, by simpa using HM.out, Kept.refl _ _⟩
end Go.Proofs.YteaidpbopgjleaaDoor
