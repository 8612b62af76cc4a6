/-
  The reference's Score and Better. · append of numbers to a row of one's own: what it leaves as it was. · Rows of one's own, and parts of a list of numbers. · The reference's peers. · The reference's claims: a list of them in memory, and Sweep. · The reference's Sweep.
-/
import Derived.Test.YtjgiiciniplbnaaGreatDoorKc1
import Derived.Deep.DeepCutAuto
import Derived.Test.YtjgiiciniplbnaaGreatDoorKc2
import Derived.Deep.AppendLies
namespace Go.Proofs.YtjgiiciniplbnaaGreatDoor
open Go Go.RowKit Go.Lib Go.Sort
set_option linter.unusedVariables false

theorem bytesLess_cb : ∀ a b : List UInt8, Op.bytesLess a b = decide (compareBytes a b < 0)
  | [], [] => rfl
  | [], _ :: _ => by simp [Op.bytesLess, compareBytes]
  | _ :: _, [] => by simp [Op.bytesLess, compareBytes]
  | a :: x, b :: y => by
    unfold Op.bytesLess compareBytes
    rw [bytesLess_cb x y]
    by_cases h1 : a < b
    · simp [h1]
    · by_cases h2 : b < a
      · have h3 : (a == b) = false := by
          rw [beq_eq_false_iff_ne]
          intro e
          subst e
          exact h1 h2
        simp [h1, h2, h3]
      · have h3 : a = b := by
          apply UInt8.toNat_inj.1
          have g1 : ¬ a.toNat < b.toNat := h1
          have g2 : ¬ b.toNat < a.toNat := h2
          omega
        subst h3
        simp [h1]
/-- append(s, x...) of bytes, s a row of one's own, x anywhere -/
theorem wpList_appendU {w : World} {ops : Array Oper} {rest : List Oper} {o : Oper} {a : Act} {Q : Exit → Act → World → Prop} (hgd : o.guard = none) (s x : Operand)
    (ho : o.op = .call { callee := .builtin .append, args := #[s, x], argTypes := #[66, 66] }) (g0 : Nat) (v0 : Value) (m0 : Nat) (l0 : List Nat) (hs : a.eval s = v0) (hown : w.ownsRow g0 5 1 v0 m0 (u8s l0)) (hm0 : m0 ≤ 1000000)
    (b m c : Nat) (l : List Nat) (hx : a.eval x = .slice (some ⟨b, 0, none⟩) m c) (hl : l.length = m) (hnews : w.rangeAt b 0 (u8s l)) (hm : m ≤ 1000000) (hbase : g0 ≤ w.heap.size)
    (h : ∀ v' w', w'.ownsRow g0 5 1 v' (m0 + m) (u8s (l0 ++ l)) → Below g0 w w' → wpList Tryz.prog ops Q rest (a.put o.dst v') w') :
    wpList Tryz.prog ops Q (o :: rest) a w := by
  obtain ⟨i0, hi, hz0, hz1, hz2⟩ := info_parts info5
  refine Go.wpList_append_own _ hgd s x _ ho g0 5 i0 (.int .u8 0) 1 1 Tryz.underlying66 hi hz0 hz1 hz2 rfl (by decide) _ m0 (u8s l0) hs hown ⟨b, 0, none⟩ m c (u8s l) hx (by simp [u8s, hl]) (fun j u hj => by
    have e : (⟨b, 0, none⟩ : Addr).add j = ⟨b, 0 + j, none⟩ := by unfold Addr.add; split <;> simp_all
    rw [e]
    exact hnews j u hj) (fun u hu => by
      unfold u8s at hu
      obtain ⟨y, _, rfl⟩ := List.mem_map.1 hu
      rfl) (by unfold maxLen; omega) (by omega) (by omega) ?_
  intro v' w' hown' hg hn
  exact h v' w' (by rw [show u8s (l0 ++ l) = u8s l0 ++ u8s l from by simp [u8s]]; exact hown') ((Below.refl g0 w).grown hg hbase (owns_blockZ hown))
theorem ownsU_new {w : World} {g0 : Nat} (hg0 : w.heap[g0]? = some (.cells #[] 5 (0, 0))) : w.ownsRow g0 5 1 (.slice (some ⟨g0, 0, none⟩) 0 0) 0 (u8s []) :=
  ⟨rfl, .inr ⟨g0, 0, #[], rfl, Nat.le_refl _, hg0, Nat.le_refl _, Nat.zero_le _, rfl, rfl⟩⟩

set_option maxRecDepth 100000 in
set_option maxHeartbeats 4000000 in
theorem rScore_any (obj : List Nat) (ho : obj.length = 32) (hlt : ∀ x ∈ obj, x < 256) (p : Int) (w : World) (V : Rnds w) :
    Calls Tryz.prog 16 #[.agg (u8s obj).toArray, .int .i64 p] w fun e w' => e = .returned (.agg (u8s (scL obj p)).toArray) ∧ Below w.heap.size w w' := by
  obtain ⟨b, hb⟩ : ∃ y, y = w.heap.size := ⟨_, rfl⟩
  obtain ⟨w1, hw1⟩ : ∃ y, y = (w.alloc (.cells (u8s obj).toArray 23)).alloc (.cells (u8s (List.replicate 32 0)).toArray 23) := ⟨_, rfl⟩
  have hb1 : Below w.heap.size w w1 := by rw [hw1]; exact ((Below.refl _ _).alloc (Nat.le_refl _) _).alloc (by simp) _
  have hs1 : w1.heap.size = b + 2 := by rw [hw1, hb]; simp
  have HR0 := hid (show OwnD w1 b obj from by rw [hw1, hb]; exact heap_alloc (heap_new _ _) _)
  have HR1 := hid (show OwnD w1 (b + 1) (List.replicate 32 0) from by
    have h := heap_new (w.alloc (.cells (u8s obj).toArray 23)) (.cells (u8s (List.replicate 32 0)).toArray 23)
    have e : (w.alloc (.cells (u8s obj).toArray 23)).heap.size = w.heap.size + 1 := by simp
    rw [e] at h
    rw [hw1, hb]
    exact h)
  obtain ⟨w2, hw2⟩ : ∃ y, y = w1.alloc (.cells #[] 5) := ⟨_, rfl⟩
  have hb2 : Below w1.heap.size w1 w2 := by rw [hw2]; exact (Below.refl _ _).alloc (Nat.le_refl _) _
  have HG2 := hid (show w2.heap[b + 2]? = some (.cells #[] 5 (0, 0)) from by rw [hw2, ← hs1]; exact heap_new _ _)
  have HR02 := hid (show OwnD w2 b obj from (hb2.block b (by omega)).trans HR0.out)
  have HR12 := hid (show OwnD w2 (b + 1) (List.replicate 32 0) from (hb2.block (b + 1) (by omega)).trans HR1.out)
  have HB2 := hid (hb1.trans (hb2.mono hb1.size))
  have HV := hid V
  have HS2 := hid (show w2.heap.size = b + 3 from by rw [hw2]; simp [hs1])
  have HW1 := hid hw1
  have HW2 := hid hw2
  have HBB := hid hb
  have HS1 := hid hs1
  have HO := hid ho
  have HLT := hid hlt
  have hwr := pb8_wrap p
  have hp8 := pb8_lt p
  have HSC := hid (show scL obj p = dig shaRound shaStart (obj ++ [pb8 p]) from rfl)
  have hsl := scL_length obj p
  obtain ⟨SC, hSC⟩ : ∃ y, y = scL obj p := ⟨_, rfl⟩
  rw [← hSC] at HSC hsl ⊢
  generalize pb8 p = q at *
  have HP8 := hid hp8
  clear V hb1 hb2 hs1 hw1 hw2 hb ho hlt hSC hp8
  go_enter Tryz.func16, Tryz.ntmps16
  go_upto_region 1 with fail
  change Code.wp _ _ _ _ ((w.alloc (.cells (u8s obj).toArray 23)).alloc (.cells (u8s (List.replicate 32 0)).toArray 23))
  rw [← HW1.out, ← HBB.out]
  have hbw : w1.heap.size = b + 2 := HS1.out
  go_wp2_with (first
    | ((have h0 := HO.out)
       (rw [← HW2.out])
       (refine wpList_appendU (by rfl) (.tmp 5) (.tmp 6) (by rfl) (b + 2) _ 0 [] (by rfl) (ownsU_new HG2.out) (by omega) b 32 32 obj (by rfl) h0 (range_own HR02.out) (by omega) (by have := HS2.out; omega) ?_)
       (intro v3 w3 hown3 hb3)
       (clear hbw h0)
       (have HOW3 := hid (show w3.ownsRow (b + 2) 5 1 v3 32 (u8s obj) from hown3))
       (have hbs : b + 2 ≤ w3.heap.size := Nat.le_trans (by have := HS2.out; omega) hb3.size)
       (have HR13 := hid (show OwnD w3 (b + 1) (List.replicate 32 0) from (hb3.block (b + 1) (by omega)).trans HR12.out))
       (have HB3 := hid (HB2.out.trans (hb3.mono (by have := HBB.out; omega))))
       (clear hown3 hb3 HR02 HR12 HG2))
    | ((have h0 := HP8.out)
       (have h1 := HOW3.out)
       (refine wpList_appendU (by rfl) (.tmp 7) (.tmp 10) (by rfl) (b + 2) _ 32 obj (by rfl) (owns_belowP h1 ((Below.refl _ _).alloc (Nat.le_refl _) _)) (by omega) w3.heap.size 1 1 [q] (by rfl) rfl (range_own (heap_new _ _)) (by omega) (by simp; omega) ?_)
       (intro v4 w4 hown4 hb4)
       (clear HOW3 h1 h0)))
  have hown4' : w4.ownsRow (b + 2) 5 1 v4 33 (u8s (obj ++ [q])) := hown4
  have hlt4 : ∀ x ∈ obj ++ [q], x < 256 := fun x hx => by
    rcases List.mem_append.1 hx with h | h
    · exact HLT.out x h
    · simp at h; rw [h]; exact HP8.out
  obtain ⟨a4, c4, e4, -, hc4, hbs4, -⟩ := bs_of_owns hown4' hlt4
  subst e4
  have hnil4 : a4 = none → c4 = 0 := fun e => by
    subst e
    obtain ⟨_, h2⟩ := hown4'
    rcases h2 with ⟨h3, _⟩ | ⟨g, cap, cur, h3, _⟩
    · simp at h3
    · simp at h3
  have HB4 := hid ((HB3.out.alloc HB3.out.size (.cells #[.int .u8 ((q : Nat) : Int)] 5)).trans (hb4.mono (by have := HBB.out; omega)))
  have HR4 := hid (show OwnD w4 (b + 1) (List.replicate 32 0) from (hb4.block (b + 1) (by omega)).trans (heap_alloc HR13.out _))
  have hsum := rsum_any (obj ++ [q]) a4 33 c4 w4 (HV.out.below HB4.out) hbs4 hnil4 (by decide)
  rw [← HSC.out] at hsum
  have HSUM := hid hsum
  have hl32' : (u8s SC).length = 32 := by simp [u8s, hsl]
  have HIF2 := hid (show (Tryz.prog.info? 23).map (·.size) = some (u8s SC).toArray.size from by rw [List.size_toArray, hl32']; kernel_rfl)
  have HOLD := hid (show (u8s (List.replicate 32 0)).toArray.size = (u8s SC).toArray.size from by rw [List.size_toArray, List.size_toArray, hl32']; rfl)
  have HONE := hid (show (u8s SC).toArray.all (·.oneCell') = true from all_oneCell_toArray (u8s_oneH _))
  clear hown4 hown4' hlt4 hb4 hsum hbs4 hl32' HSC hwr hnil4
  refine HSUM.out.mono ?_
  rintro e w5 ⟨rfl, hb5⟩
  have HR5 := hid ((hb5.block (b + 1) (lt_of_heap HR4.out)).trans HR4.out)
  have HBE := hid (HB4.out.trans (hb5.mono HB4.out.size))
  clear hb5
  go_wp2_with (refine wpList_store_row (by rfl) 23 (.tmp 4) (.tmp 12) (by rfl) (b + 1) _ (u8s SC).toArray _ (by rfl) (by rfl) HR5.out HIF2.out HOLD.out HONE.out ?_
               intro w8 hw8 hk8)
  have hres : (loadVar 23 ⟨b + 1, 0, none⟩).run Tryz.prog w8 = .ok (.agg (u8s SC).toArray) w8 := run_loadVar_row _ _ 23 23 _ (0, 0) _ hw8 Tryz.underlying23 rfl HIF2.out
  refine bodyPost_ret (v := .agg (u8s SC).toArray) (results_at Tryz.results16 rfl hres) rfl ⟨rfl, ?_⟩
  exact HBE.out.trans (hk8.below HBE.out.size (by have := HBB.out; omega))

theorem bs_digR {w : World} {b : Nat} {l : List Nat} (h : OwnD w b l) (hl : l.length = 32) (hlt : ∀ x ∈ l, x < 256) : Bs w (.slice (some ⟨b, 0, none⟩) 32 32) l :=
  ⟨_, 32, by rw [hl], hlt, fun _ => ⟨b, 0, rfl, fun i hi => by
    rw [Nat.zero_add, cell_of_heap h]
    simp [u8s, List.getElem?_eq_getElem hi]⟩⟩
theorem bstr_list (l : List Nat) : (bstr l).toList = bl l := by
  have e : (bstr l).toList = (bstr l).data.toList := by
    first
      | exact ByteArray.toList_eq _
      | simp
  rw [e]
  unfold bstr bl
  simp
theorem cmp_str (s t : List Nat) (a b : Int) (h : (decide (s = t) : Bool) = false) (hs : ∀ x ∈ s, x < 256) (ht : ∀ x ∈ t, x < 256) : decide (cmpRk s t a b < 0) = Op.bytesLess (bl s) (bl t) := by
  rw [bytesLess_cb]
  unfold cmpRk
  rw [if_neg]
  intro e
  have e2 := cb_zero _ _ e
  have : s = t := by
    unfold bl at e2
    have h3 := congrArg (List.map UInt8.toNat) e2
    rw [List.map_map, List.map_map] at h3
    have g : ∀ l : List Nat, (∀ x ∈ l, x < 256) → l.map (UInt8.toNat ∘ Nat.toUInt8) = l := fun l hl => by
      have : l.map (UInt8.toNat ∘ Nat.toUInt8) = l.map id := List.map_congr_left fun x hx => by
        have := hl x hx
        simp
        omega
      rw [this, List.map_id]
    rw [g s hs, g t ht] at h3
    exact h3
  exact absurd (decide_eq_true this) (by rw [h]; exact Bool.false_ne_true)
theorem cmp_eqS (s : List Nat) (a b : Int) : decide (cmpRk s s a b < 0) = decide (a < b) := by
  unfold cmpRk
  rw [if_pos (cb_refl _)]
  unfold compareInt
  by_cases h : a < b
  · simp [h]
  · by_cases h2 : b < a
    · have : ¬ a < b := h
      simp [h, h2]
    · simp [h, h2]
set_option maxRecDepth 100000 in
set_option maxHeartbeats 40000000 in
theorem rBetter_any (obj : List Nat) (ho : obj.length = 32) (hlt : ∀ x ∈ obj, x < 256) (a b : Int) (w : World) (V : Rnds w) :
    Calls Tryz.prog 18 #[.agg (u8s obj).toArray, .int .i64 a, .int .i64 b] w fun e w' => e = .returned (.bool (decide (cmpP obj a b < 0))) ∧ Below w.heap.size w w' := by
  obtain ⟨w1, hw1⟩ : ∃ y, y = w.alloc (.cells (u8s obj).toArray 23) := ⟨_, rfl⟩
  have hb1 : Below w.heap.size w w1 := by rw [hw1]; exact (Below.refl _ _).alloc (Nat.le_refl _) _
  have HR0 := hid (show OwnD w1 w.heap.size obj from by rw [hw1]; exact heap_new _ _)
  have HV1 := hid (V.below hb1)
  have HB1 := hid hb1
  have HSA := hid (fun (wx : World) (h : Below w1.heap.size w1 wx) => rScore_any obj ho hlt a wx (HV1.out.below h))
  have HSB := hid (fun (wx : World) (h : Below w1.heap.size w1 wx) => rScore_any obj ho hlt b wx (HV1.out.below h))
  have HCM := hid (show cmpP obj a b = cmpRk (scL obj a) (scL obj b) a b from rfl)
  have HLA := hid (scL_lt obj a)
  have HLB := hid (scL_lt obj b)
  have hla := scL_length obj a
  have hlb := scL_length obj b
  generalize cmpP obj a b = C at *
  obtain ⟨R, hR⟩ : ∃ R, R = decide (C < 0) := ⟨_, rfl⟩
  rw [← hR]
  have HR := hid hR
  clear hR
  generalize scL obj a = SA at *
  generalize scL obj b = SB at *
  have HL1 := hid hla
  have HL2 := hid hlb
  have HIFA := hid (infoDA SA hla)
  have HIZA := hid (zeroDA SA hla)
  have HONA := hid (oneDA SA)
  have HIFB := hid (infoDA SB hlb)
  have HIZB := hid (zeroDA SB hlb)
  have HONB := hid (oneDA SB)
  have HEQ := hid (fun wx => eql_any SA SB hla hlb wx)
  obtain ⟨VA, hVA⟩ : ∃ y, y = (u8s SA).toArray := ⟨_, rfl⟩
  obtain ⟨VB, hVB⟩ : ∃ y, y = (u8s SB).toArray := ⟨_, rfl⟩
  obtain ⟨OB, hOB⟩ : ∃ y, y = (u8s obj).toArray := ⟨_, rfl⟩
  have HKP := hid (show ∀ wx, Below w1.heap.size w1 wx → Below w1.heap.size w1 wx ∧ (loadVar 23 ⟨w.heap.size, 0, none⟩).run Tryz.prog wx = .ok (.agg OB) wx from fun wx h => ⟨h, by
    rw [hOB]
    exact load_dig ho ((h.block _ (lt_of_heap HR0.out)).trans HR0.out)⟩)
  rw [← hVA] at HIFA HIZA HONA HSA HEQ
  rw [← hVB] at HIFB HIZB HONB HSB HEQ
  have HW1 := hid hw1
  rw [← hOB] at HW1 HSA HSB ⊢
  have HVA := hid hVA
  have HVB := hid hVB
  clear V hb1 hw1 hla hlb hVA hVB hOB ho hlt
  go_enter Tryz.func18, Tryz.ntmps18
  go_upto_region 1 with fail
  rw [← HW1.out]
  clear HW1
  go_cut [7, 8] (fun p q wx => ∃ b7 b8 : Nat, p = .pointer (some ⟨b7, 0, none⟩) ∧ q = .pointer (some ⟨b8, 0, none⟩) ∧ Hid (wx.heap[b7]? = some (.cells VA 23 (0, 0))) ∧ Hid (wx.heap[b8]? = some (.cells VB 23 (0, 0))) ∧ Hid (Below w1.heap.size w1 wx))
  case first =>
    refine wp_region_held_drew (S := (fun wx => Below w1.heap.size w1 wx ∧ (loadVar 23 ⟨w.heap.size, 0, none⟩).run Tryz.prog wx = .ok (.agg OB) wx)) (by kernel_rfl) (HKP.out _ (bel_drewN (Below.refl w1.heap.size w1) 1)) (fun hHeld => ?_)
    refine wpAnyH_take (i := 0) (oi := { dst := some 9, op := Op.load 23 (Operand.tmp 3), type := 23, pos := "ref.go:16", after := #[], guard := none }) (v := .agg OB) rfl (by kernel_rfl) (by kernel_rfl) (by kernel_rfl) (fun _ _ _ h => h) (Or.inl ⟨by rfl, ?hy⟩) hHeld ?_
    case hy => (intro w hSw; exact run_load_opP hSw.2)
    try simp only [Act.put, List.setIfInBounds_toArray, List.set_cons_zero, List.set_cons_succ]
    refine wpAnyH_take (i := 1) (oi := { dst := some 10, op := Op.move (Operand.tmp 1), type := 3, pos := "ref.go:16", after := #[], guard := none }) (v := ?_) rfl (by kernel_rfl) (by kernel_rfl) (by kernel_rfl) (fun _ _ _ h => h) (Or.inl ⟨by rfl, ?hy⟩) hHeld ?_
    case hy => (intro w hSw; (try dsimp only at hSw); obtain ⟨_, _⟩ := hSw; go_simp; all_goals (with_reducible rfl))
    try simp only [Act.put, List.setIfInBounds_toArray, List.set_cons_zero, List.set_cons_succ]
    refine wpAnyH_take (i := 3) (oi := { dst := some 12, op := Op.load 23 (Operand.tmp 3), type := 23, pos := "ref.go:16", after := #[], guard := none }) (v := .agg OB) rfl (by kernel_rfl) (by kernel_rfl) (by kernel_rfl) (fun _ _ _ h => h) (Or.inl ⟨by rfl, ?hy⟩) hHeld ?_
    case hy => (intro w hSw; exact run_load_opP hSw.2)
    try simp only [Act.put, List.setIfInBounds_toArray, List.set_cons_zero, List.set_cons_succ]
    refine wpAnyH_take (i := 4) (oi := { dst := some 13, op := Op.move (Operand.tmp 2), type := 3, pos := "ref.go:16", after := #[], guard := none }) (v := ?_) rfl (by kernel_rfl) (by kernel_rfl) (by kernel_rfl) (fun _ _ _ h => h) (Or.inl ⟨by rfl, ?hy⟩) hHeld ?_
    case hy => (intro w hSw; (try dsimp only at hSw); obtain ⟨_, _⟩ := hSw; go_simp; all_goals (with_reducible rfl))
    try simp only [Act.put, List.setIfInBounds_toArray, List.set_cons_zero, List.set_cons_succ]
    refine wpAnyH_ready (rs := [2, 6, 7]) (by kernel_rfl) (by simp) ?_
    refine AllReadyH.cons (o := { dst := some 11, op := Op.call { callee := Callee.value (Operand.func 16), args := #[Operand.tmp 9, Operand.tmp 10], argTypes := #[23, 3] }, type := 23, pos := "ref.go:16", after := #[{ on := 0, ground := Ground.data }, { on := 1, ground := Ground.data }], guard := none }) rfl (fun K hK => ?_) ?_
    · skip
      go_simp
      refine (HSA.out _ ((bel_drewN (Below.refl w1.heap.size w1) 1))).mono ?_
      rintro e wx1 ⟨rfl, hb1⟩
      have G1 := ((bel_drewN (Below.refl w1.heap.size w1) 1)).trans (hb1.mono ((bel_drewN (Below.refl w1.heap.size w1) 1)).size)
      clear hHeld hb1
      go_wp2_with fail
      refine hK.out _ _ (HKP.out _ G1) (fun hHeld => ?_)
      clear hK K
      try simp only [Act.put, List.setIfInBounds_toArray, List.set_cons_zero, List.set_cons_succ]
      refine wpAnyH_ready (rs := [5, 6, 7]) (by kernel_rfl) (by simp) ?_
      refine AllReadyH.cons (o := { dst := some 14, op := Op.call { callee := Callee.value (Operand.func 16), args := #[Operand.tmp 12, Operand.tmp 13], argTypes := #[23, 3] }, type := 23, pos := "ref.go:16", after := #[{ on := 3, ground := Ground.data }, { on := 4, ground := Ground.data }, { on := 2, ground := Ground.chain }], guard := none }) rfl (fun K hK => ?_) ?_
      · skip
        go_simp
        refine (HSB.out _ (G1)).mono ?_
        rintro e wx2 ⟨rfl, hb2⟩
        have G2 := (G1).trans (hb2.mono (G1).size)
        clear hHeld hb2
        go_wp2_with fail
        refine hK.out _ _ (HKP.out _ G2) (fun hHeld => ?_)
        clear hK K
        try simp only [Act.put, List.setIfInBounds_toArray, List.set_cons_zero, List.set_cons_succ]
        refine wpAnyH_ready (rs := [6, 7]) (by kernel_rfl) (by simp) ?_
        refine AllReadyH.cons (o := { dst := some 7, op := Op.alloc 23, type := 0, pos := "ref.go:16", after := #[], guard := none }) rfl (fun K hK => ?_) ?_
        · skip
          have hs3 : wx2.heap.size = wx2.heap.size := by simp
          go_simp
          have G3 : Below w1.heap.size w1 (wx2.alloc (.cells (u8s (List.replicate 32 0)).toArray 23)) := (G2).alloc (G2).size _
          have F7_3 := hid (show (wx2.alloc (.cells (u8s (List.replicate 32 0)).toArray 23)).heap[wx2.heap.size]? = some (.cells (u8s (List.replicate 32 0)).toArray 23 (0, 0)) from by have h := heap_new wx2 (.cells (u8s (List.replicate 32 0)).toArray 23); rw [hs3] at h; exact h)
          have lo3 : w1.heap.size ≤ wx2.heap.size := by rw [← hs3]; exact (G2).size
          clear hs3
          refine hK.out _ _ (HKP.out _ G3) (fun hHeld => ?_)
          clear hK K
          try simp only [Act.put, List.setIfInBounds_toArray, List.set_cons_zero, List.set_cons_succ]
          refine wpAnyH_ready (rs := [7]) (by kernel_rfl) (by simp) ?_
          refine AllReadyH.cons (o := { dst := some 8, op := Op.alloc 23, type := 0, pos := "ref.go:16", after := #[], guard := none }) rfl (fun K hK => ?_) AllReadyH.nil
          have hs4 : (wx2.alloc (.cells (u8s (List.replicate 32 0)).toArray 23)).heap.size = wx2.heap.size + 1 := by simp
          go_simp
          have G4 : Below w1.heap.size w1 ((wx2.alloc (.cells (u8s (List.replicate 32 0)).toArray 23)).alloc (.cells (u8s (List.replicate 32 0)).toArray 23)) := (G3).alloc (G3).size _
          have ne4 : wx2.heap.size ≠ wx2.heap.size + 1 := by have h := lt_of_heap F7_3.out; rw [hs4] at h; exact Nat.ne_of_lt h
          have F7_4 := hid (heap_alloc F7_3.out (.cells (u8s (List.replicate 32 0)).toArray 23))
          have F8_4 := hid (show ((wx2.alloc (.cells (u8s (List.replicate 32 0)).toArray 23)).alloc (.cells (u8s (List.replicate 32 0)).toArray 23)).heap[wx2.heap.size + 1]? = some (.cells (u8s (List.replicate 32 0)).toArray 23 (0, 0)) from by have h := heap_new (wx2.alloc (.cells (u8s (List.replicate 32 0)).toArray 23)) (.cells (u8s (List.replicate 32 0)).toArray 23); rw [hs4] at h; exact h)
          have lo4 : w1.heap.size ≤ wx2.heap.size + 1 := by rw [← hs4]; exact (G3).size
          clear hs4
          refine hK.out _ _ (HKP.out _ G4) (fun hHeld => ?_)
          clear hK K
          try simp only [Act.put, List.setIfInBounds_toArray, List.set_cons_zero, List.set_cons_succ]
          refine wpAnyH_ready (rs := [8]) (by kernel_rfl) (by simp) ?_
          refine AllReadyH.cons (o := { dst := none, op := Op.store 23 (Operand.tmp 7) (Operand.tmp 11), type := 0, pos := "ref.go:16", after := #[{ on := 6, ground := Ground.data }, { on := 2, ground := Ground.data }, { on := 5, ground := Ground.chain }, { on := 0, ground := Ground.phase }, { on := 1, ground := Ground.phase }, { on := 2, ground := Ground.phase }, { on := 3, ground := Ground.textOnly Departure.lateStores }, { on := 4, ground := Ground.textOnly Departure.lateStores }, { on := 5, ground := Ground.phase }, { on := 6, ground := Ground.phase }, { on := 7, ground := Ground.phase }], guard := none }) rfl (fun K hK => ?_) AllReadyH.nil
          refine step_store_row rfl 23 (.tmp 7) (.tmp 11) rfl (wx2.heap.size) (u8s (List.replicate 32 0)).toArray VA 23 rfl rfl F7_4.out HIFA.out HIZA.out HONA.out ?_
          intro wx5 hw5 hk5
          have G5 := (G4).trans (hk5.below (G4).size lo3)
          have F8_5 := hid ((hk5.block _ (lt_of_heap F8_4.out) (ne4.symm)).trans F8_4.out)
          have F7_5 := hid hw5
          clear hw5 hk5
          refine hK.out _ _ (HKP.out _ G5) (fun hHeld => ?_)
          clear hK K
          try simp only [Act.put]
          refine wpAnyH_ready (rs := [9]) (by kernel_rfl) (by simp) ?_
          refine AllReadyH.cons (o := { dst := none, op := Op.store 23 (Operand.tmp 8) (Operand.tmp 14), type := 0, pos := "ref.go:16", after := #[{ on := 7, ground := Ground.data }, { on := 5, ground := Ground.data }, { on := 8, ground := Ground.chain }, { on := 0, ground := Ground.phase }, { on := 1, ground := Ground.phase }, { on := 2, ground := Ground.phase }, { on := 3, ground := Ground.phase }, { on := 4, ground := Ground.phase }, { on := 5, ground := Ground.phase }, { on := 6, ground := Ground.phase }, { on := 7, ground := Ground.phase }, { on := 8, ground := Ground.phase }], guard := none }) rfl (fun K hK => ?_) AllReadyH.nil
          refine step_store_row rfl 23 (.tmp 8) (.tmp 14) rfl (wx2.heap.size + 1) (u8s (List.replicate 32 0)).toArray VB 23 rfl rfl F8_5.out HIFB.out HIZB.out HONB.out ?_
          intro wx6 hw6 hk6
          have G6 := (G5).trans (hk6.below (G5).size lo4)
          have F7_6 := hid ((hk6.block _ (lt_of_heap F7_5.out) (ne4)).trans F7_5.out)
          have F8_6 := hid hw6
          clear hw6 hk6
          refine hK.out _ _ (HKP.out _ G6) (fun hHeld => ?_)
          clear hK K
          try simp only [Act.put]
          refine wpAnyH_done (by kernel_rfl) ?_ _
          go_wp2_with fail
          go_meet
          exact ⟨_, _, rfl, rfl, hid F7_6.out, hid F8_6.out, hid G6⟩
        refine AllReadyH.cons (o := { dst := some 8, op := Op.alloc 23, type := 0, pos := "ref.go:16", after := #[], guard := none }) rfl (fun K hK => ?_) AllReadyH.nil
        have hs7 : wx2.heap.size = wx2.heap.size := by simp
        go_simp
        have G7 : Below w1.heap.size w1 (wx2.alloc (.cells (u8s (List.replicate 32 0)).toArray 23)) := (G2).alloc (G2).size _
        have F8_7 := hid (show (wx2.alloc (.cells (u8s (List.replicate 32 0)).toArray 23)).heap[wx2.heap.size]? = some (.cells (u8s (List.replicate 32 0)).toArray 23 (0, 0)) from by have h := heap_new wx2 (.cells (u8s (List.replicate 32 0)).toArray 23); rw [hs7] at h; exact h)
        have lo7 : w1.heap.size ≤ wx2.heap.size := by rw [← hs7]; exact (G2).size
        clear hs7
        refine hK.out _ _ (HKP.out _ G7) (fun hHeld => ?_)
        clear hK K
        try simp only [Act.put, List.setIfInBounds_toArray, List.set_cons_zero, List.set_cons_succ]
        refine wpAnyH_ready (rs := [6]) (by kernel_rfl) (by simp) ?_
        refine AllReadyH.cons (o := { dst := some 7, op := Op.alloc 23, type := 0, pos := "ref.go:16", after := #[], guard := none }) rfl (fun K hK => ?_) AllReadyH.nil
        have hs8 : (wx2.alloc (.cells (u8s (List.replicate 32 0)).toArray 23)).heap.size = wx2.heap.size + 1 := by simp
        go_simp
        have G8 : Below w1.heap.size w1 ((wx2.alloc (.cells (u8s (List.replicate 32 0)).toArray 23)).alloc (.cells (u8s (List.replicate 32 0)).toArray 23)) := (G7).alloc (G7).size _
        have ne8 : wx2.heap.size ≠ wx2.heap.size + 1 := by have h := lt_of_heap F8_7.out; rw [hs8] at h; exact Nat.ne_of_lt h
        have F8_8 := hid (heap_alloc F8_7.out (.cells (u8s (List.replicate 32 0)).toArray 23))
        have F7_8 := hid (show ((wx2.alloc (.cells (u8s (List.replicate 32 0)).toArray 23)).alloc (.cells (u8s (List.replicate 32 0)).toArray 23)).heap[wx2.heap.size + 1]? = some (.cells (u8s (List.replicate 32 0)).toArray 23 (0, 0)) from by have h := heap_new (wx2.alloc (.cells (u8s (List.replicate 32 0)).toArray 23)) (.cells (u8s (List.replicate 32 0)).toArray 23); rw [hs8] at h; exact h)
        have lo8 : w1.heap.size ≤ wx2.heap.size + 1 := by rw [← hs8]; exact (G7).size
        clear hs8
        refine hK.out _ _ (HKP.out _ G8) (fun hHeld => ?_)
        clear hK K
        try simp only [Act.put, List.setIfInBounds_toArray, List.set_cons_zero, List.set_cons_succ]
        refine wpAnyH_ready (rs := [8]) (by kernel_rfl) (by simp) ?_
        refine AllReadyH.cons (o := { dst := none, op := Op.store 23 (Operand.tmp 7) (Operand.tmp 11), type := 0, pos := "ref.go:16", after := #[{ on := 6, ground := Ground.data }, { on := 2, ground := Ground.data }, { on := 5, ground := Ground.chain }, { on := 0, ground := Ground.phase }, { on := 1, ground := Ground.phase }, { on := 2, ground := Ground.phase }, { on := 3, ground := Ground.textOnly Departure.lateStores }, { on := 4, ground := Ground.textOnly Departure.lateStores }, { on := 5, ground := Ground.phase }, { on := 6, ground := Ground.phase }, { on := 7, ground := Ground.phase }], guard := none }) rfl (fun K hK => ?_) AllReadyH.nil
        refine step_store_row rfl 23 (.tmp 7) (.tmp 11) rfl (wx2.heap.size + 1) (u8s (List.replicate 32 0)).toArray VA 23 rfl rfl F7_8.out HIFA.out HIZA.out HONA.out ?_
        intro wx9 hw9 hk9
        have G9 := (G8).trans (hk9.below (G8).size lo8)
        have F8_9 := hid ((hk9.block _ (lt_of_heap F8_8.out) (ne8)).trans F8_8.out)
        have F7_9 := hid hw9
        clear hw9 hk9
        refine hK.out _ _ (HKP.out _ G9) (fun hHeld => ?_)
        clear hK K
        try simp only [Act.put]
        refine wpAnyH_ready (rs := [9]) (by kernel_rfl) (by simp) ?_
        refine AllReadyH.cons (o := { dst := none, op := Op.store 23 (Operand.tmp 8) (Operand.tmp 14), type := 0, pos := "ref.go:16", after := #[{ on := 7, ground := Ground.data }, { on := 5, ground := Ground.data }, { on := 8, ground := Ground.chain }, { on := 0, ground := Ground.phase }, { on := 1, ground := Ground.phase }, { on := 2, ground := Ground.phase }, { on := 3, ground := Ground.phase }, { on := 4, ground := Ground.phase }, { on := 5, ground := Ground.phase }, { on := 6, ground := Ground.phase }, { on := 7, ground := Ground.phase }, { on := 8, ground := Ground.phase }], guard := none }) rfl (fun K hK => ?_) AllReadyH.nil
        refine step_store_row rfl 23 (.tmp 8) (.tmp 14) rfl (wx2.heap.size) (u8s (List.replicate 32 0)).toArray VB 23 rfl rfl F8_9.out HIFB.out HIZB.out HONB.out ?_
        intro wx10 hw10 hk10
        have G10 := (G9).trans (hk10.below (G9).size lo7)
        have F7_10 := hid ((hk10.block _ (lt_of_heap F7_9.out) (ne8.symm)).trans F7_9.out)
        have F8_10 := hid hw10
        clear hw10 hk10
        refine hK.out _ _ (HKP.out _ G10) (fun hHeld => ?_)
        clear hK K
        try simp only [Act.put]
        refine wpAnyH_done (by kernel_rfl) ?_ _
        go_wp2_with fail
        go_meet
        exact ⟨_, _, rfl, rfl, hid F7_10.out, hid F8_10.out, hid G10⟩
      refine AllReadyH.cons (o := { dst := some 7, op := Op.alloc 23, type := 0, pos := "ref.go:16", after := #[], guard := none }) rfl (fun K hK => ?_) ?_
      · skip
        have hs11 : wx1.heap.size = wx1.heap.size := by simp
        go_simp
        have G11 : Below w1.heap.size w1 (wx1.alloc (.cells (u8s (List.replicate 32 0)).toArray 23)) := (G1).alloc (G1).size _
        have F7_11 := hid (show (wx1.alloc (.cells (u8s (List.replicate 32 0)).toArray 23)).heap[wx1.heap.size]? = some (.cells (u8s (List.replicate 32 0)).toArray 23 (0, 0)) from by have h := heap_new wx1 (.cells (u8s (List.replicate 32 0)).toArray 23); rw [hs11] at h; exact h)
        have lo11 : w1.heap.size ≤ wx1.heap.size := by rw [← hs11]; exact (G1).size
        clear hs11
        refine hK.out _ _ (HKP.out _ G11) (fun hHeld => ?_)
        clear hK K
        try simp only [Act.put, List.setIfInBounds_toArray, List.set_cons_zero, List.set_cons_succ]
        refine wpAnyH_ready (rs := [5, 7]) (by kernel_rfl) (by simp) ?_
        refine AllReadyH.cons (o := { dst := some 14, op := Op.call { callee := Callee.value (Operand.func 16), args := #[Operand.tmp 12, Operand.tmp 13], argTypes := #[23, 3] }, type := 23, pos := "ref.go:16", after := #[{ on := 3, ground := Ground.data }, { on := 4, ground := Ground.data }, { on := 2, ground := Ground.chain }], guard := none }) rfl (fun K hK => ?_) ?_
        · skip
          go_simp
          refine (HSB.out _ (G11)).mono ?_
          rintro e wx12 ⟨rfl, hb12⟩
          have G12 := (G11).trans (hb12.mono (G11).size)
          have F7_12 := hid ((hb12.block _ (lt_of_heap F7_11.out)).trans F7_11.out)
          clear hHeld hb12
          go_wp2_with fail
          refine hK.out _ _ (HKP.out _ G12) (fun hHeld => ?_)
          clear hK K
          try simp only [Act.put, List.setIfInBounds_toArray, List.set_cons_zero, List.set_cons_succ]
          refine wpAnyH_ready (rs := [7]) (by kernel_rfl) (by simp) ?_
          refine AllReadyH.cons (o := { dst := some 8, op := Op.alloc 23, type := 0, pos := "ref.go:16", after := #[], guard := none }) rfl (fun K hK => ?_) AllReadyH.nil
          have hs13 : wx12.heap.size = wx12.heap.size := by simp
          go_simp
          have G13 : Below w1.heap.size w1 (wx12.alloc (.cells (u8s (List.replicate 32 0)).toArray 23)) := (G12).alloc (G12).size _
          have ne13 : wx1.heap.size ≠ wx12.heap.size := by have h := lt_of_heap F7_12.out; rw [hs13] at h; exact Nat.ne_of_lt h
          have F7_13 := hid (heap_alloc F7_12.out (.cells (u8s (List.replicate 32 0)).toArray 23))
          have F8_13 := hid (show (wx12.alloc (.cells (u8s (List.replicate 32 0)).toArray 23)).heap[wx12.heap.size]? = some (.cells (u8s (List.replicate 32 0)).toArray 23 (0, 0)) from by have h := heap_new wx12 (.cells (u8s (List.replicate 32 0)).toArray 23); rw [hs13] at h; exact h)
          have lo13 : w1.heap.size ≤ wx12.heap.size := by rw [← hs13]; exact (G12).size
          clear hs13
          refine hK.out _ _ (HKP.out _ G13) (fun hHeld => ?_)
          clear hK K
          try simp only [Act.put, List.setIfInBounds_toArray, List.set_cons_zero, List.set_cons_succ]
          refine wpAnyH_ready (rs := [8]) (by kernel_rfl) (by simp) ?_
          refine AllReadyH.cons (o := { dst := none, op := Op.store 23 (Operand.tmp 7) (Operand.tmp 11), type := 0, pos := "ref.go:16", after := #[{ on := 6, ground := Ground.data }, { on := 2, ground := Ground.data }, { on := 5, ground := Ground.chain }, { on := 0, ground := Ground.phase }, { on := 1, ground := Ground.phase }, { on := 2, ground := Ground.phase }, { on := 3, ground := Ground.textOnly Departure.lateStores }, { on := 4, ground := Ground.textOnly Departure.lateStores }, { on := 5, ground := Ground.phase }, { on := 6, ground := Ground.phase }, { on := 7, ground := Ground.phase }], guard := none }) rfl (fun K hK => ?_) AllReadyH.nil
          refine step_store_row rfl 23 (.tmp 7) (.tmp 11) rfl (wx1.heap.size) (u8s (List.replicate 32 0)).toArray VA 23 rfl rfl F7_13.out HIFA.out HIZA.out HONA.out ?_
          intro wx14 hw14 hk14
          have G14 := (G13).trans (hk14.below (G13).size lo11)
          have F8_14 := hid ((hk14.block _ (lt_of_heap F8_13.out) (ne13.symm)).trans F8_13.out)
          have F7_14 := hid hw14
          clear hw14 hk14
          refine hK.out _ _ (HKP.out _ G14) (fun hHeld => ?_)
          clear hK K
          try simp only [Act.put]
          refine wpAnyH_ready (rs := [9]) (by kernel_rfl) (by simp) ?_
          refine AllReadyH.cons (o := { dst := none, op := Op.store 23 (Operand.tmp 8) (Operand.tmp 14), type := 0, pos := "ref.go:16", after := #[{ on := 7, ground := Ground.data }, { on := 5, ground := Ground.data }, { on := 8, ground := Ground.chain }, { on := 0, ground := Ground.phase }, { on := 1, ground := Ground.phase }, { on := 2, ground := Ground.phase }, { on := 3, ground := Ground.phase }, { on := 4, ground := Ground.phase }, { on := 5, ground := Ground.phase }, { on := 6, ground := Ground.phase }, { on := 7, ground := Ground.phase }, { on := 8, ground := Ground.phase }], guard := none }) rfl (fun K hK => ?_) AllReadyH.nil
          refine step_store_row rfl 23 (.tmp 8) (.tmp 14) rfl (wx12.heap.size) (u8s (List.replicate 32 0)).toArray VB 23 rfl rfl F8_14.out HIFB.out HIZB.out HONB.out ?_
          intro wx15 hw15 hk15
          have G15 := (G14).trans (hk15.below (G14).size lo13)
          have F7_15 := hid ((hk15.block _ (lt_of_heap F7_14.out) (ne13)).trans F7_14.out)
          have F8_15 := hid hw15
          clear hw15 hk15
          refine hK.out _ _ (HKP.out _ G15) (fun hHeld => ?_)
          clear hK K
          try simp only [Act.put]
          refine wpAnyH_done (by kernel_rfl) ?_ _
          go_wp2_with fail
          go_meet
          exact ⟨_, _, rfl, rfl, hid F7_15.out, hid F8_15.out, hid G15⟩
        refine AllReadyH.cons (o := { dst := some 8, op := Op.alloc 23, type := 0, pos := "ref.go:16", after := #[], guard := none }) rfl (fun K hK => ?_) AllReadyH.nil
        have hs16 : (wx1.alloc (.cells (u8s (List.replicate 32 0)).toArray 23)).heap.size = wx1.heap.size + 1 := by simp
        go_simp
        have G16 : Below w1.heap.size w1 ((wx1.alloc (.cells (u8s (List.replicate 32 0)).toArray 23)).alloc (.cells (u8s (List.replicate 32 0)).toArray 23)) := (G11).alloc (G11).size _
        have ne16 : wx1.heap.size ≠ wx1.heap.size + 1 := by have h := lt_of_heap F7_11.out; rw [hs16] at h; exact Nat.ne_of_lt h
        have F7_16 := hid (heap_alloc F7_11.out (.cells (u8s (List.replicate 32 0)).toArray 23))
        have F8_16 := hid (show ((wx1.alloc (.cells (u8s (List.replicate 32 0)).toArray 23)).alloc (.cells (u8s (List.replicate 32 0)).toArray 23)).heap[wx1.heap.size + 1]? = some (.cells (u8s (List.replicate 32 0)).toArray 23 (0, 0)) from by have h := heap_new (wx1.alloc (.cells (u8s (List.replicate 32 0)).toArray 23)) (.cells (u8s (List.replicate 32 0)).toArray 23); rw [hs16] at h; exact h)
        have lo16 : w1.heap.size ≤ wx1.heap.size + 1 := by rw [← hs16]; exact (G11).size
        clear hs16
        refine hK.out _ _ (HKP.out _ G16) (fun hHeld => ?_)
        clear hK K
        try simp only [Act.put, List.setIfInBounds_toArray, List.set_cons_zero, List.set_cons_succ]
        refine wpAnyH_ready (rs := [5]) (by kernel_rfl) (by simp) ?_
        refine AllReadyH.cons (o := { dst := some 14, op := Op.call { callee := Callee.value (Operand.func 16), args := #[Operand.tmp 12, Operand.tmp 13], argTypes := #[23, 3] }, type := 23, pos := "ref.go:16", after := #[{ on := 3, ground := Ground.data }, { on := 4, ground := Ground.data }, { on := 2, ground := Ground.chain }], guard := none }) rfl (fun K hK => ?_) AllReadyH.nil
        go_simp
        refine (HSB.out _ (G16)).mono ?_
        rintro e wx17 ⟨rfl, hb17⟩
        have G17 := (G16).trans (hb17.mono (G16).size)
        have F7_17 := hid ((hb17.block _ (lt_of_heap F7_16.out)).trans F7_16.out)
        have F8_17 := hid ((hb17.block _ (lt_of_heap F8_16.out)).trans F8_16.out)
        clear hHeld hb17
        go_wp2_with fail
        refine hK.out _ _ (HKP.out _ G17) (fun hHeld => ?_)
        clear hK K
        try simp only [Act.put, List.setIfInBounds_toArray, List.set_cons_zero, List.set_cons_succ]
        refine wpAnyH_ready (rs := [8]) (by kernel_rfl) (by simp) ?_
        refine AllReadyH.cons (o := { dst := none, op := Op.store 23 (Operand.tmp 7) (Operand.tmp 11), type := 0, pos := "ref.go:16", after := #[{ on := 6, ground := Ground.data }, { on := 2, ground := Ground.data }, { on := 5, ground := Ground.chain }, { on := 0, ground := Ground.phase }, { on := 1, ground := Ground.phase }, { on := 2, ground := Ground.phase }, { on := 3, ground := Ground.textOnly Departure.lateStores }, { on := 4, ground := Ground.textOnly Departure.lateStores }, { on := 5, ground := Ground.phase }, { on := 6, ground := Ground.phase }, { on := 7, ground := Ground.phase }], guard := none }) rfl (fun K hK => ?_) AllReadyH.nil
        refine step_store_row rfl 23 (.tmp 7) (.tmp 11) rfl (wx1.heap.size) (u8s (List.replicate 32 0)).toArray VA 23 rfl rfl F7_17.out HIFA.out HIZA.out HONA.out ?_
        intro wx18 hw18 hk18
        have G18 := (G17).trans (hk18.below (G17).size lo11)
        have F8_18 := hid ((hk18.block _ (lt_of_heap F8_17.out) (ne16.symm)).trans F8_17.out)
        have F7_18 := hid hw18
        clear hw18 hk18
        refine hK.out _ _ (HKP.out _ G18) (fun hHeld => ?_)
        clear hK K
        try simp only [Act.put]
        refine wpAnyH_ready (rs := [9]) (by kernel_rfl) (by simp) ?_
        refine AllReadyH.cons (o := { dst := none, op := Op.store 23 (Operand.tmp 8) (Operand.tmp 14), type := 0, pos := "ref.go:16", after := #[{ on := 7, ground := Ground.data }, { on := 5, ground := Ground.data }, { on := 8, ground := Ground.chain }, { on := 0, ground := Ground.phase }, { on := 1, ground := Ground.phase }, { on := 2, ground := Ground.phase }, { on := 3, ground := Ground.phase }, { on := 4, ground := Ground.phase }, { on := 5, ground := Ground.phase }, { on := 6, ground := Ground.phase }, { on := 7, ground := Ground.phase }, { on := 8, ground := Ground.phase }], guard := none }) rfl (fun K hK => ?_) AllReadyH.nil
        refine step_store_row rfl 23 (.tmp 8) (.tmp 14) rfl (wx1.heap.size + 1) (u8s (List.replicate 32 0)).toArray VB 23 rfl rfl F8_18.out HIFB.out HIZB.out HONB.out ?_
        intro wx19 hw19 hk19
        have G19 := (G18).trans (hk19.below (G18).size lo16)
        have F7_19 := hid ((hk19.block _ (lt_of_heap F7_18.out) (ne16)).trans F7_18.out)
        have F8_19 := hid hw19
        clear hw19 hk19
        refine hK.out _ _ (HKP.out _ G19) (fun hHeld => ?_)
        clear hK K
        try simp only [Act.put]
        refine wpAnyH_done (by kernel_rfl) ?_ _
        go_wp2_with fail
        go_meet
        exact ⟨_, _, rfl, rfl, hid F7_19.out, hid F8_19.out, hid G19⟩
      refine AllReadyH.cons (o := { dst := some 8, op := Op.alloc 23, type := 0, pos := "ref.go:16", after := #[], guard := none }) rfl (fun K hK => ?_) AllReadyH.nil
      have hs20 : wx1.heap.size = wx1.heap.size := by simp
      go_simp
      have G20 : Below w1.heap.size w1 (wx1.alloc (.cells (u8s (List.replicate 32 0)).toArray 23)) := (G1).alloc (G1).size _
      have F8_20 := hid (show (wx1.alloc (.cells (u8s (List.replicate 32 0)).toArray 23)).heap[wx1.heap.size]? = some (.cells (u8s (List.replicate 32 0)).toArray 23 (0, 0)) from by have h := heap_new wx1 (.cells (u8s (List.replicate 32 0)).toArray 23); rw [hs20] at h; exact h)
      have lo20 : w1.heap.size ≤ wx1.heap.size := by rw [← hs20]; exact (G1).size
      clear hs20
      refine hK.out _ _ (HKP.out _ G20) (fun hHeld => ?_)
      clear hK K
      try simp only [Act.put, List.setIfInBounds_toArray, List.set_cons_zero, List.set_cons_succ]
      refine wpAnyH_ready (rs := [5, 6]) (by kernel_rfl) (by simp) ?_
      refine AllReadyH.cons (o := { dst := some 14, op := Op.call { callee := Callee.value (Operand.func 16), args := #[Operand.tmp 12, Operand.tmp 13], argTypes := #[23, 3] }, type := 23, pos := "ref.go:16", after := #[{ on := 3, ground := Ground.data }, { on := 4, ground := Ground.data }, { on := 2, ground := Ground.chain }], guard := none }) rfl (fun K hK => ?_) ?_
      · skip
        go_simp
        refine (HSB.out _ (G20)).mono ?_
        rintro e wx21 ⟨rfl, hb21⟩
        have G21 := (G20).trans (hb21.mono (G20).size)
        have F8_21 := hid ((hb21.block _ (lt_of_heap F8_20.out)).trans F8_20.out)
        clear hHeld hb21
        go_wp2_with fail
        refine hK.out _ _ (HKP.out _ G21) (fun hHeld => ?_)
        clear hK K
        try simp only [Act.put, List.setIfInBounds_toArray, List.set_cons_zero, List.set_cons_succ]
        refine wpAnyH_ready (rs := [6]) (by kernel_rfl) (by simp) ?_
        refine AllReadyH.cons (o := { dst := some 7, op := Op.alloc 23, type := 0, pos := "ref.go:16", after := #[], guard := none }) rfl (fun K hK => ?_) AllReadyH.nil
        have hs22 : wx21.heap.size = wx21.heap.size := by simp
        go_simp
        have G22 : Below w1.heap.size w1 (wx21.alloc (.cells (u8s (List.replicate 32 0)).toArray 23)) := (G21).alloc (G21).size _
        have ne22 : wx1.heap.size ≠ wx21.heap.size := by have h := lt_of_heap F8_21.out; rw [hs22] at h; exact Nat.ne_of_lt h
        have F8_22 := hid (heap_alloc F8_21.out (.cells (u8s (List.replicate 32 0)).toArray 23))
        have F7_22 := hid (show (wx21.alloc (.cells (u8s (List.replicate 32 0)).toArray 23)).heap[wx21.heap.size]? = some (.cells (u8s (List.replicate 32 0)).toArray 23 (0, 0)) from by have h := heap_new wx21 (.cells (u8s (List.replicate 32 0)).toArray 23); rw [hs22] at h; exact h)
        have lo22 : w1.heap.size ≤ wx21.heap.size := by rw [← hs22]; exact (G21).size
        clear hs22
        refine hK.out _ _ (HKP.out _ G22) (fun hHeld => ?_)
        clear hK K
        try simp only [Act.put, List.setIfInBounds_toArray, List.set_cons_zero, List.set_cons_succ]
        refine wpAnyH_ready (rs := [8]) (by kernel_rfl) (by simp) ?_
        refine AllReadyH.cons (o := { dst := none, op := Op.store 23 (Operand.tmp 7) (Operand.tmp 11), type := 0, pos := "ref.go:16", after := #[{ on := 6, ground := Ground.data }, { on := 2, ground := Ground.data }, { on := 5, ground := Ground.chain }, { on := 0, ground := Ground.phase }, { on := 1, ground := Ground.phase }, { on := 2, ground := Ground.phase }, { on := 3, ground := Ground.textOnly Departure.lateStores }, { on := 4, ground := Ground.textOnly Departure.lateStores }, { on := 5, ground := Ground.phase }, { on := 6, ground := Ground.phase }, { on := 7, ground := Ground.phase }], guard := none }) rfl (fun K hK => ?_) AllReadyH.nil
        refine step_store_row rfl 23 (.tmp 7) (.tmp 11) rfl (wx21.heap.size) (u8s (List.replicate 32 0)).toArray VA 23 rfl rfl F7_22.out HIFA.out HIZA.out HONA.out ?_
        intro wx23 hw23 hk23
        have G23 := (G22).trans (hk23.below (G22).size lo22)
        have F8_23 := hid ((hk23.block _ (lt_of_heap F8_22.out) (ne22)).trans F8_22.out)
        have F7_23 := hid hw23
        clear hw23 hk23
        refine hK.out _ _ (HKP.out _ G23) (fun hHeld => ?_)
        clear hK K
        try simp only [Act.put]
        refine wpAnyH_ready (rs := [9]) (by kernel_rfl) (by simp) ?_
        refine AllReadyH.cons (o := { dst := none, op := Op.store 23 (Operand.tmp 8) (Operand.tmp 14), type := 0, pos := "ref.go:16", after := #[{ on := 7, ground := Ground.data }, { on := 5, ground := Ground.data }, { on := 8, ground := Ground.chain }, { on := 0, ground := Ground.phase }, { on := 1, ground := Ground.phase }, { on := 2, ground := Ground.phase }, { on := 3, ground := Ground.phase }, { on := 4, ground := Ground.phase }, { on := 5, ground := Ground.phase }, { on := 6, ground := Ground.phase }, { on := 7, ground := Ground.phase }, { on := 8, ground := Ground.phase }], guard := none }) rfl (fun K hK => ?_) AllReadyH.nil
        refine step_store_row rfl 23 (.tmp 8) (.tmp 14) rfl (wx1.heap.size) (u8s (List.replicate 32 0)).toArray VB 23 rfl rfl F8_23.out HIFB.out HIZB.out HONB.out ?_
        intro wx24 hw24 hk24
        have G24 := (G23).trans (hk24.below (G23).size lo20)
        have F7_24 := hid ((hk24.block _ (lt_of_heap F7_23.out) (ne22.symm)).trans F7_23.out)
        have F8_24 := hid hw24
        clear hw24 hk24
        refine hK.out _ _ (HKP.out _ G24) (fun hHeld => ?_)
        clear hK K
        try simp only [Act.put]
        refine wpAnyH_done (by kernel_rfl) ?_ _
        go_wp2_with fail
        go_meet
        exact ⟨_, _, rfl, rfl, hid F7_24.out, hid F8_24.out, hid G24⟩
      refine AllReadyH.cons (o := { dst := some 7, op := Op.alloc 23, type := 0, pos := "ref.go:16", after := #[], guard := none }) rfl (fun K hK => ?_) AllReadyH.nil
      have hs25 : (wx1.alloc (.cells (u8s (List.replicate 32 0)).toArray 23)).heap.size = wx1.heap.size + 1 := by simp
      go_simp
      have G25 : Below w1.heap.size w1 ((wx1.alloc (.cells (u8s (List.replicate 32 0)).toArray 23)).alloc (.cells (u8s (List.replicate 32 0)).toArray 23)) := (G20).alloc (G20).size _
      have ne25 : wx1.heap.size ≠ wx1.heap.size + 1 := by have h := lt_of_heap F8_20.out; rw [hs25] at h; exact Nat.ne_of_lt h
      have F8_25 := hid (heap_alloc F8_20.out (.cells (u8s (List.replicate 32 0)).toArray 23))
      have F7_25 := hid (show ((wx1.alloc (.cells (u8s (List.replicate 32 0)).toArray 23)).alloc (.cells (u8s (List.replicate 32 0)).toArray 23)).heap[wx1.heap.size + 1]? = some (.cells (u8s (List.replicate 32 0)).toArray 23 (0, 0)) from by have h := heap_new (wx1.alloc (.cells (u8s (List.replicate 32 0)).toArray 23)) (.cells (u8s (List.replicate 32 0)).toArray 23); rw [hs25] at h; exact h)
      have lo25 : w1.heap.size ≤ wx1.heap.size + 1 := by rw [← hs25]; exact (G20).size
      clear hs25
      refine hK.out _ _ (HKP.out _ G25) (fun hHeld => ?_)
      clear hK K
      try simp only [Act.put, List.setIfInBounds_toArray, List.set_cons_zero, List.set_cons_succ]
      refine wpAnyH_ready (rs := [5]) (by kernel_rfl) (by simp) ?_
      refine AllReadyH.cons (o := { dst := some 14, op := Op.call { callee := Callee.value (Operand.func 16), args := #[Operand.tmp 12, Operand.tmp 13], argTypes := #[23, 3] }, type := 23, pos := "ref.go:16", after := #[{ on := 3, ground := Ground.data }, { on := 4, ground := Ground.data }, { on := 2, ground := Ground.chain }], guard := none }) rfl (fun K hK => ?_) AllReadyH.nil
      go_simp
      refine (HSB.out _ (G25)).mono ?_
      rintro e wx26 ⟨rfl, hb26⟩
      have G26 := (G25).trans (hb26.mono (G25).size)
      have F8_26 := hid ((hb26.block _ (lt_of_heap F8_25.out)).trans F8_25.out)
      have F7_26 := hid ((hb26.block _ (lt_of_heap F7_25.out)).trans F7_25.out)
      clear hHeld hb26
      go_wp2_with fail
      refine hK.out _ _ (HKP.out _ G26) (fun hHeld => ?_)
      clear hK K
      try simp only [Act.put, List.setIfInBounds_toArray, List.set_cons_zero, List.set_cons_succ]
      refine wpAnyH_ready (rs := [8]) (by kernel_rfl) (by simp) ?_
      refine AllReadyH.cons (o := { dst := none, op := Op.store 23 (Operand.tmp 7) (Operand.tmp 11), type := 0, pos := "ref.go:16", after := #[{ on := 6, ground := Ground.data }, { on := 2, ground := Ground.data }, { on := 5, ground := Ground.chain }, { on := 0, ground := Ground.phase }, { on := 1, ground := Ground.phase }, { on := 2, ground := Ground.phase }, { on := 3, ground := Ground.textOnly Departure.lateStores }, { on := 4, ground := Ground.textOnly Departure.lateStores }, { on := 5, ground := Ground.phase }, { on := 6, ground := Ground.phase }, { on := 7, ground := Ground.phase }], guard := none }) rfl (fun K hK => ?_) AllReadyH.nil
      refine step_store_row rfl 23 (.tmp 7) (.tmp 11) rfl (wx1.heap.size + 1) (u8s (List.replicate 32 0)).toArray VA 23 rfl rfl F7_26.out HIFA.out HIZA.out HONA.out ?_
      intro wx27 hw27 hk27
      have G27 := (G26).trans (hk27.below (G26).size lo25)
      have F8_27 := hid ((hk27.block _ (lt_of_heap F8_26.out) (ne25)).trans F8_26.out)
      have F7_27 := hid hw27
      clear hw27 hk27
      refine hK.out _ _ (HKP.out _ G27) (fun hHeld => ?_)
      clear hK K
      try simp only [Act.put]
      refine wpAnyH_ready (rs := [9]) (by kernel_rfl) (by simp) ?_
      refine AllReadyH.cons (o := { dst := none, op := Op.store 23 (Operand.tmp 8) (Operand.tmp 14), type := 0, pos := "ref.go:16", after := #[{ on := 7, ground := Ground.data }, { on := 5, ground := Ground.data }, { on := 8, ground := Ground.chain }, { on := 0, ground := Ground.phase }, { on := 1, ground := Ground.phase }, { on := 2, ground := Ground.phase }, { on := 3, ground := Ground.phase }, { on := 4, ground := Ground.phase }, { on := 5, ground := Ground.phase }, { on := 6, ground := Ground.phase }, { on := 7, ground := Ground.phase }, { on := 8, ground := Ground.phase }], guard := none }) rfl (fun K hK => ?_) AllReadyH.nil
      refine step_store_row rfl 23 (.tmp 8) (.tmp 14) rfl (wx1.heap.size) (u8s (List.replicate 32 0)).toArray VB 23 rfl rfl F8_27.out HIFB.out HIZB.out HONB.out ?_
      intro wx28 hw28 hk28
      have G28 := (G27).trans (hk28.below (G27).size lo20)
      have F7_28 := hid ((hk28.block _ (lt_of_heap F7_27.out) (ne25.symm)).trans F7_27.out)
      have F8_28 := hid hw28
      clear hw28 hk28
      refine hK.out _ _ (HKP.out _ G28) (fun hHeld => ?_)
      clear hK K
      try simp only [Act.put]
      refine wpAnyH_done (by kernel_rfl) ?_ _
      go_wp2_with fail
      go_meet
      exact ⟨_, _, rfl, rfl, hid F7_28.out, hid F8_28.out, hid G28⟩
    refine AllReadyH.cons (o := { dst := some 7, op := Op.alloc 23, type := 0, pos := "ref.go:16", after := #[], guard := none }) rfl (fun K hK => ?_) ?_
    · skip
      have hs29 : (w1.drewN 1).heap.size = w1.heap.size := by simp
      go_simp
      have G29 : Below w1.heap.size w1 ((w1.drewN 1).alloc (.cells (u8s (List.replicate 32 0)).toArray 23)) := ((bel_drewN (Below.refl w1.heap.size w1) 1)).alloc ((bel_drewN (Below.refl w1.heap.size w1) 1)).size _
      have F7_29 := hid (show ((w1.drewN 1).alloc (.cells (u8s (List.replicate 32 0)).toArray 23)).heap[w1.heap.size]? = some (.cells (u8s (List.replicate 32 0)).toArray 23 (0, 0)) from by have h := heap_new (w1.drewN 1) (.cells (u8s (List.replicate 32 0)).toArray 23); rw [hs29] at h; exact h)
      have lo29 : w1.heap.size ≤ w1.heap.size := by rw [← hs29]; exact ((bel_drewN (Below.refl w1.heap.size w1) 1)).size
      clear hs29
      refine hK.out _ _ (HKP.out _ G29) (fun hHeld => ?_)
      clear hK K
      try simp only [Act.put, List.setIfInBounds_toArray, List.set_cons_zero, List.set_cons_succ]
      refine wpAnyH_ready (rs := [2, 7]) (by kernel_rfl) (by simp) ?_
      refine AllReadyH.cons (o := { dst := some 11, op := Op.call { callee := Callee.value (Operand.func 16), args := #[Operand.tmp 9, Operand.tmp 10], argTypes := #[23, 3] }, type := 23, pos := "ref.go:16", after := #[{ on := 0, ground := Ground.data }, { on := 1, ground := Ground.data }], guard := none }) rfl (fun K hK => ?_) ?_
      · skip
        go_simp
        refine (HSA.out _ (G29)).mono ?_
        rintro e wx30 ⟨rfl, hb30⟩
        have G30 := (G29).trans (hb30.mono (G29).size)
        have F7_30 := hid ((hb30.block _ (lt_of_heap F7_29.out)).trans F7_29.out)
        clear hHeld hb30
        go_wp2_with fail
        refine hK.out _ _ (HKP.out _ G30) (fun hHeld => ?_)
        clear hK K
        try simp only [Act.put, List.setIfInBounds_toArray, List.set_cons_zero, List.set_cons_succ]
        refine wpAnyH_ready (rs := [5, 7]) (by kernel_rfl) (by simp) ?_
        refine AllReadyH.cons (o := { dst := some 14, op := Op.call { callee := Callee.value (Operand.func 16), args := #[Operand.tmp 12, Operand.tmp 13], argTypes := #[23, 3] }, type := 23, pos := "ref.go:16", after := #[{ on := 3, ground := Ground.data }, { on := 4, ground := Ground.data }, { on := 2, ground := Ground.chain }], guard := none }) rfl (fun K hK => ?_) ?_
        · skip
          go_simp
          refine (HSB.out _ (G30)).mono ?_
          rintro e wx31 ⟨rfl, hb31⟩
          have G31 := (G30).trans (hb31.mono (G30).size)
          have F7_31 := hid ((hb31.block _ (lt_of_heap F7_30.out)).trans F7_30.out)
          clear hHeld hb31
          go_wp2_with fail
          refine hK.out _ _ (HKP.out _ G31) (fun hHeld => ?_)
          clear hK K
          try simp only [Act.put, List.setIfInBounds_toArray, List.set_cons_zero, List.set_cons_succ]
          refine wpAnyH_ready (rs := [7]) (by kernel_rfl) (by simp) ?_
          refine AllReadyH.cons (o := { dst := some 8, op := Op.alloc 23, type := 0, pos := "ref.go:16", after := #[], guard := none }) rfl (fun K hK => ?_) AllReadyH.nil
          have hs32 : wx31.heap.size = wx31.heap.size := by simp
          go_simp
          have G32 : Below w1.heap.size w1 (wx31.alloc (.cells (u8s (List.replicate 32 0)).toArray 23)) := (G31).alloc (G31).size _
          have ne32 : w1.heap.size ≠ wx31.heap.size := by have h := lt_of_heap F7_31.out; rw [hs32] at h; exact Nat.ne_of_lt h
          have F7_32 := hid (heap_alloc F7_31.out (.cells (u8s (List.replicate 32 0)).toArray 23))
          have F8_32 := hid (show (wx31.alloc (.cells (u8s (List.replicate 32 0)).toArray 23)).heap[wx31.heap.size]? = some (.cells (u8s (List.replicate 32 0)).toArray 23 (0, 0)) from by have h := heap_new wx31 (.cells (u8s (List.replicate 32 0)).toArray 23); rw [hs32] at h; exact h)
          have lo32 : w1.heap.size ≤ wx31.heap.size := by rw [← hs32]; exact (G31).size
          clear hs32
          refine hK.out _ _ (HKP.out _ G32) (fun hHeld => ?_)
          clear hK K
          try simp only [Act.put, List.setIfInBounds_toArray, List.set_cons_zero, List.set_cons_succ]
          refine wpAnyH_ready (rs := [8]) (by kernel_rfl) (by simp) ?_
          refine AllReadyH.cons (o := { dst := none, op := Op.store 23 (Operand.tmp 7) (Operand.tmp 11), type := 0, pos := "ref.go:16", after := #[{ on := 6, ground := Ground.data }, { on := 2, ground := Ground.data }, { on := 5, ground := Ground.chain }, { on := 0, ground := Ground.phase }, { on := 1, ground := Ground.phase }, { on := 2, ground := Ground.phase }, { on := 3, ground := Ground.textOnly Departure.lateStores }, { on := 4, ground := Ground.textOnly Departure.lateStores }, { on := 5, ground := Ground.phase }, { on := 6, ground := Ground.phase }, { on := 7, ground := Ground.phase }], guard := none }) rfl (fun K hK => ?_) AllReadyH.nil
          refine step_store_row rfl 23 (.tmp 7) (.tmp 11) rfl (w1.heap.size) (u8s (List.replicate 32 0)).toArray VA 23 rfl rfl F7_32.out HIFA.out HIZA.out HONA.out ?_
          intro wx33 hw33 hk33
          have G33 := (G32).trans (hk33.below (G32).size lo29)
          have F8_33 := hid ((hk33.block _ (lt_of_heap F8_32.out) (ne32.symm)).trans F8_32.out)
          have F7_33 := hid hw33
          clear hw33 hk33
          refine hK.out _ _ (HKP.out _ G33) (fun hHeld => ?_)
          clear hK K
          try simp only [Act.put]
          refine wpAnyH_ready (rs := [9]) (by kernel_rfl) (by simp) ?_
          refine AllReadyH.cons (o := { dst := none, op := Op.store 23 (Operand.tmp 8) (Operand.tmp 14), type := 0, pos := "ref.go:16", after := #[{ on := 7, ground := Ground.data }, { on := 5, ground := Ground.data }, { on := 8, ground := Ground.chain }, { on := 0, ground := Ground.phase }, { on := 1, ground := Ground.phase }, { on := 2, ground := Ground.phase }, { on := 3, ground := Ground.phase }, { on := 4, ground := Ground.phase }, { on := 5, ground := Ground.phase }, { on := 6, ground := Ground.phase }, { on := 7, ground := Ground.phase }, { on := 8, ground := Ground.phase }], guard := none }) rfl (fun K hK => ?_) AllReadyH.nil
          refine step_store_row rfl 23 (.tmp 8) (.tmp 14) rfl (wx31.heap.size) (u8s (List.replicate 32 0)).toArray VB 23 rfl rfl F8_33.out HIFB.out HIZB.out HONB.out ?_
          intro wx34 hw34 hk34
          have G34 := (G33).trans (hk34.below (G33).size lo32)
          have F7_34 := hid ((hk34.block _ (lt_of_heap F7_33.out) (ne32)).trans F7_33.out)
          have F8_34 := hid hw34
          clear hw34 hk34
          refine hK.out _ _ (HKP.out _ G34) (fun hHeld => ?_)
          clear hK K
          try simp only [Act.put]
          refine wpAnyH_done (by kernel_rfl) ?_ _
          go_wp2_with fail
          go_meet
          exact ⟨_, _, rfl, rfl, hid F7_34.out, hid F8_34.out, hid G34⟩
        refine AllReadyH.cons (o := { dst := some 8, op := Op.alloc 23, type := 0, pos := "ref.go:16", after := #[], guard := none }) rfl (fun K hK => ?_) AllReadyH.nil
        have hs35 : wx30.heap.size = wx30.heap.size := by simp
        go_simp
        have G35 : Below w1.heap.size w1 (wx30.alloc (.cells (u8s (List.replicate 32 0)).toArray 23)) := (G30).alloc (G30).size _
        have ne35 : w1.heap.size ≠ wx30.heap.size := by have h := lt_of_heap F7_30.out; rw [hs35] at h; exact Nat.ne_of_lt h
        have F7_35 := hid (heap_alloc F7_30.out (.cells (u8s (List.replicate 32 0)).toArray 23))
        have F8_35 := hid (show (wx30.alloc (.cells (u8s (List.replicate 32 0)).toArray 23)).heap[wx30.heap.size]? = some (.cells (u8s (List.replicate 32 0)).toArray 23 (0, 0)) from by have h := heap_new wx30 (.cells (u8s (List.replicate 32 0)).toArray 23); rw [hs35] at h; exact h)
        have lo35 : w1.heap.size ≤ wx30.heap.size := by rw [← hs35]; exact (G30).size
        clear hs35
        refine hK.out _ _ (HKP.out _ G35) (fun hHeld => ?_)
        clear hK K
        try simp only [Act.put, List.setIfInBounds_toArray, List.set_cons_zero, List.set_cons_succ]
        refine wpAnyH_ready (rs := [5]) (by kernel_rfl) (by simp) ?_
        refine AllReadyH.cons (o := { dst := some 14, op := Op.call { callee := Callee.value (Operand.func 16), args := #[Operand.tmp 12, Operand.tmp 13], argTypes := #[23, 3] }, type := 23, pos := "ref.go:16", after := #[{ on := 3, ground := Ground.data }, { on := 4, ground := Ground.data }, { on := 2, ground := Ground.chain }], guard := none }) rfl (fun K hK => ?_) AllReadyH.nil
        go_simp
        refine (HSB.out _ (G35)).mono ?_
        rintro e wx36 ⟨rfl, hb36⟩
        have G36 := (G35).trans (hb36.mono (G35).size)
        have F7_36 := hid ((hb36.block _ (lt_of_heap F7_35.out)).trans F7_35.out)
        have F8_36 := hid ((hb36.block _ (lt_of_heap F8_35.out)).trans F8_35.out)
        clear hHeld hb36
        go_wp2_with fail
        refine hK.out _ _ (HKP.out _ G36) (fun hHeld => ?_)
        clear hK K
        try simp only [Act.put, List.setIfInBounds_toArray, List.set_cons_zero, List.set_cons_succ]
        refine wpAnyH_ready (rs := [8]) (by kernel_rfl) (by simp) ?_
        refine AllReadyH.cons (o := { dst := none, op := Op.store 23 (Operand.tmp 7) (Operand.tmp 11), type := 0, pos := "ref.go:16", after := #[{ on := 6, ground := Ground.data }, { on := 2, ground := Ground.data }, { on := 5, ground := Ground.chain }, { on := 0, ground := Ground.phase }, { on := 1, ground := Ground.phase }, { on := 2, ground := Ground.phase }, { on := 3, ground := Ground.textOnly Departure.lateStores }, { on := 4, ground := Ground.textOnly Departure.lateStores }, { on := 5, ground := Ground.phase }, { on := 6, ground := Ground.phase }, { on := 7, ground := Ground.phase }], guard := none }) rfl (fun K hK => ?_) AllReadyH.nil
        refine step_store_row rfl 23 (.tmp 7) (.tmp 11) rfl (w1.heap.size) (u8s (List.replicate 32 0)).toArray VA 23 rfl rfl F7_36.out HIFA.out HIZA.out HONA.out ?_
        intro wx37 hw37 hk37
        have G37 := (G36).trans (hk37.below (G36).size lo29)
        have F8_37 := hid ((hk37.block _ (lt_of_heap F8_36.out) (ne35.symm)).trans F8_36.out)
        have F7_37 := hid hw37
        clear hw37 hk37
        refine hK.out _ _ (HKP.out _ G37) (fun hHeld => ?_)
        clear hK K
        try simp only [Act.put]
        refine wpAnyH_ready (rs := [9]) (by kernel_rfl) (by simp) ?_
        refine AllReadyH.cons (o := { dst := none, op := Op.store 23 (Operand.tmp 8) (Operand.tmp 14), type := 0, pos := "ref.go:16", after := #[{ on := 7, ground := Ground.data }, { on := 5, ground := Ground.data }, { on := 8, ground := Ground.chain }, { on := 0, ground := Ground.phase }, { on := 1, ground := Ground.phase }, { on := 2, ground := Ground.phase }, { on := 3, ground := Ground.phase }, { on := 4, ground := Ground.phase }, { on := 5, ground := Ground.phase }, { on := 6, ground := Ground.phase }, { on := 7, ground := Ground.phase }, { on := 8, ground := Ground.phase }], guard := none }) rfl (fun K hK => ?_) AllReadyH.nil
        refine step_store_row rfl 23 (.tmp 8) (.tmp 14) rfl (wx30.heap.size) (u8s (List.replicate 32 0)).toArray VB 23 rfl rfl F8_37.out HIFB.out HIZB.out HONB.out ?_
        intro wx38 hw38 hk38
        have G38 := (G37).trans (hk38.below (G37).size lo35)
        have F7_38 := hid ((hk38.block _ (lt_of_heap F7_37.out) (ne35)).trans F7_37.out)
        have F8_38 := hid hw38
        clear hw38 hk38
        refine hK.out _ _ (HKP.out _ G38) (fun hHeld => ?_)
        clear hK K
        try simp only [Act.put]
        refine wpAnyH_done (by kernel_rfl) ?_ _
        go_wp2_with fail
        go_meet
        exact ⟨_, _, rfl, rfl, hid F7_38.out, hid F8_38.out, hid G38⟩
      refine AllReadyH.cons (o := { dst := some 8, op := Op.alloc 23, type := 0, pos := "ref.go:16", after := #[], guard := none }) rfl (fun K hK => ?_) AllReadyH.nil
      have hs39 : ((w1.drewN 1).alloc (.cells (u8s (List.replicate 32 0)).toArray 23)).heap.size = w1.heap.size + 1 := by simp
      go_simp
      have G39 : Below w1.heap.size w1 (((w1.drewN 1).alloc (.cells (u8s (List.replicate 32 0)).toArray 23)).alloc (.cells (u8s (List.replicate 32 0)).toArray 23)) := (G29).alloc (G29).size _
      have ne39 : w1.heap.size ≠ w1.heap.size + 1 := by have h := lt_of_heap F7_29.out; rw [hs39] at h; exact Nat.ne_of_lt h
      have F7_39 := hid (heap_alloc F7_29.out (.cells (u8s (List.replicate 32 0)).toArray 23))
      have F8_39 := hid (show (((w1.drewN 1).alloc (.cells (u8s (List.replicate 32 0)).toArray 23)).alloc (.cells (u8s (List.replicate 32 0)).toArray 23)).heap[w1.heap.size + 1]? = some (.cells (u8s (List.replicate 32 0)).toArray 23 (0, 0)) from by have h := heap_new ((w1.drewN 1).alloc (.cells (u8s (List.replicate 32 0)).toArray 23)) (.cells (u8s (List.replicate 32 0)).toArray 23); rw [hs39] at h; exact h)
      have lo39 : w1.heap.size ≤ w1.heap.size + 1 := by rw [← hs39]; exact (G29).size
      clear hs39
      refine hK.out _ _ (HKP.out _ G39) (fun hHeld => ?_)
      clear hK K
      try simp only [Act.put, List.setIfInBounds_toArray, List.set_cons_zero, List.set_cons_succ]
      refine wpAnyH_ready (rs := [2]) (by kernel_rfl) (by simp) ?_
      refine AllReadyH.cons (o := { dst := some 11, op := Op.call { callee := Callee.value (Operand.func 16), args := #[Operand.tmp 9, Operand.tmp 10], argTypes := #[23, 3] }, type := 23, pos := "ref.go:16", after := #[{ on := 0, ground := Ground.data }, { on := 1, ground := Ground.data }], guard := none }) rfl (fun K hK => ?_) AllReadyH.nil
      go_simp
      refine (HSA.out _ (G39)).mono ?_
      rintro e wx40 ⟨rfl, hb40⟩
      have G40 := (G39).trans (hb40.mono (G39).size)
      have F7_40 := hid ((hb40.block _ (lt_of_heap F7_39.out)).trans F7_39.out)
      have F8_40 := hid ((hb40.block _ (lt_of_heap F8_39.out)).trans F8_39.out)
      clear hHeld hb40
      go_wp2_with fail
      refine hK.out _ _ (HKP.out _ G40) (fun hHeld => ?_)
      clear hK K
      try simp only [Act.put, List.setIfInBounds_toArray, List.set_cons_zero, List.set_cons_succ]
      refine wpAnyH_ready (rs := [5]) (by kernel_rfl) (by simp) ?_
      refine AllReadyH.cons (o := { dst := some 14, op := Op.call { callee := Callee.value (Operand.func 16), args := #[Operand.tmp 12, Operand.tmp 13], argTypes := #[23, 3] }, type := 23, pos := "ref.go:16", after := #[{ on := 3, ground := Ground.data }, { on := 4, ground := Ground.data }, { on := 2, ground := Ground.chain }], guard := none }) rfl (fun K hK => ?_) AllReadyH.nil
      go_simp
      refine (HSB.out _ (G40)).mono ?_
      rintro e wx41 ⟨rfl, hb41⟩
      have G41 := (G40).trans (hb41.mono (G40).size)
      have F7_41 := hid ((hb41.block _ (lt_of_heap F7_40.out)).trans F7_40.out)
      have F8_41 := hid ((hb41.block _ (lt_of_heap F8_40.out)).trans F8_40.out)
      clear hHeld hb41
      go_wp2_with fail
      refine hK.out _ _ (HKP.out _ G41) (fun hHeld => ?_)
      clear hK K
      try simp only [Act.put, List.setIfInBounds_toArray, List.set_cons_zero, List.set_cons_succ]
      refine wpAnyH_ready (rs := [8]) (by kernel_rfl) (by simp) ?_
      refine AllReadyH.cons (o := { dst := none, op := Op.store 23 (Operand.tmp 7) (Operand.tmp 11), type := 0, pos := "ref.go:16", after := #[{ on := 6, ground := Ground.data }, { on := 2, ground := Ground.data }, { on := 5, ground := Ground.chain }, { on := 0, ground := Ground.phase }, { on := 1, ground := Ground.phase }, { on := 2, ground := Ground.phase }, { on := 3, ground := Ground.textOnly Departure.lateStores }, { on := 4, ground := Ground.textOnly Departure.lateStores }, { on := 5, ground := Ground.phase }, { on := 6, ground := Ground.phase }, { on := 7, ground := Ground.phase }], guard := none }) rfl (fun K hK => ?_) AllReadyH.nil
      refine step_store_row rfl 23 (.tmp 7) (.tmp 11) rfl (w1.heap.size) (u8s (List.replicate 32 0)).toArray VA 23 rfl rfl F7_41.out HIFA.out HIZA.out HONA.out ?_
      intro wx42 hw42 hk42
      have G42 := (G41).trans (hk42.below (G41).size lo29)
      have F8_42 := hid ((hk42.block _ (lt_of_heap F8_41.out) (ne39.symm)).trans F8_41.out)
      have F7_42 := hid hw42
      clear hw42 hk42
      refine hK.out _ _ (HKP.out _ G42) (fun hHeld => ?_)
      clear hK K
      try simp only [Act.put]
      refine wpAnyH_ready (rs := [9]) (by kernel_rfl) (by simp) ?_
      refine AllReadyH.cons (o := { dst := none, op := Op.store 23 (Operand.tmp 8) (Operand.tmp 14), type := 0, pos := "ref.go:16", after := #[{ on := 7, ground := Ground.data }, { on := 5, ground := Ground.data }, { on := 8, ground := Ground.chain }, { on := 0, ground := Ground.phase }, { on := 1, ground := Ground.phase }, { on := 2, ground := Ground.phase }, { on := 3, ground := Ground.phase }, { on := 4, ground := Ground.phase }, { on := 5, ground := Ground.phase }, { on := 6, ground := Ground.phase }, { on := 7, ground := Ground.phase }, { on := 8, ground := Ground.phase }], guard := none }) rfl (fun K hK => ?_) AllReadyH.nil
      refine step_store_row rfl 23 (.tmp 8) (.tmp 14) rfl (w1.heap.size + 1) (u8s (List.replicate 32 0)).toArray VB 23 rfl rfl F8_42.out HIFB.out HIZB.out HONB.out ?_
      intro wx43 hw43 hk43
      have G43 := (G42).trans (hk43.below (G42).size lo39)
      have F7_43 := hid ((hk43.block _ (lt_of_heap F7_42.out) (ne39)).trans F7_42.out)
      have F8_43 := hid hw43
      clear hw43 hk43
      refine hK.out _ _ (HKP.out _ G43) (fun hHeld => ?_)
      clear hK K
      try simp only [Act.put]
      refine wpAnyH_done (by kernel_rfl) ?_ _
      go_wp2_with fail
      go_meet
      exact ⟨_, _, rfl, rfl, hid F7_43.out, hid F8_43.out, hid G43⟩
    refine AllReadyH.cons (o := { dst := some 8, op := Op.alloc 23, type := 0, pos := "ref.go:16", after := #[], guard := none }) rfl (fun K hK => ?_) AllReadyH.nil
    have hs44 : (w1.drewN 1).heap.size = w1.heap.size := by simp
    go_simp
    have G44 : Below w1.heap.size w1 ((w1.drewN 1).alloc (.cells (u8s (List.replicate 32 0)).toArray 23)) := ((bel_drewN (Below.refl w1.heap.size w1) 1)).alloc ((bel_drewN (Below.refl w1.heap.size w1) 1)).size _
    have F8_44 := hid (show ((w1.drewN 1).alloc (.cells (u8s (List.replicate 32 0)).toArray 23)).heap[w1.heap.size]? = some (.cells (u8s (List.replicate 32 0)).toArray 23 (0, 0)) from by have h := heap_new (w1.drewN 1) (.cells (u8s (List.replicate 32 0)).toArray 23); rw [hs44] at h; exact h)
    have lo44 : w1.heap.size ≤ w1.heap.size := by rw [← hs44]; exact ((bel_drewN (Below.refl w1.heap.size w1) 1)).size
    clear hs44
    refine hK.out _ _ (HKP.out _ G44) (fun hHeld => ?_)
    clear hK K
    try simp only [Act.put, List.setIfInBounds_toArray, List.set_cons_zero, List.set_cons_succ]
    refine wpAnyH_ready (rs := [2, 6]) (by kernel_rfl) (by simp) ?_
    refine AllReadyH.cons (o := { dst := some 11, op := Op.call { callee := Callee.value (Operand.func 16), args := #[Operand.tmp 9, Operand.tmp 10], argTypes := #[23, 3] }, type := 23, pos := "ref.go:16", after := #[{ on := 0, ground := Ground.data }, { on := 1, ground := Ground.data }], guard := none }) rfl (fun K hK => ?_) ?_
    · skip
      go_simp
      refine (HSA.out _ (G44)).mono ?_
      rintro e wx45 ⟨rfl, hb45⟩
      have G45 := (G44).trans (hb45.mono (G44).size)
      have F8_45 := hid ((hb45.block _ (lt_of_heap F8_44.out)).trans F8_44.out)
      clear hHeld hb45
      go_wp2_with fail
      refine hK.out _ _ (HKP.out _ G45) (fun hHeld => ?_)
      clear hK K
      try simp only [Act.put, List.setIfInBounds_toArray, List.set_cons_zero, List.set_cons_succ]
      refine wpAnyH_ready (rs := [5, 6]) (by kernel_rfl) (by simp) ?_
      refine AllReadyH.cons (o := { dst := some 14, op := Op.call { callee := Callee.value (Operand.func 16), args := #[Operand.tmp 12, Operand.tmp 13], argTypes := #[23, 3] }, type := 23, pos := "ref.go:16", after := #[{ on := 3, ground := Ground.data }, { on := 4, ground := Ground.data }, { on := 2, ground := Ground.chain }], guard := none }) rfl (fun K hK => ?_) ?_
      · skip
        go_simp
        refine (HSB.out _ (G45)).mono ?_
        rintro e wx46 ⟨rfl, hb46⟩
        have G46 := (G45).trans (hb46.mono (G45).size)
        have F8_46 := hid ((hb46.block _ (lt_of_heap F8_45.out)).trans F8_45.out)
        clear hHeld hb46
        go_wp2_with fail
        refine hK.out _ _ (HKP.out _ G46) (fun hHeld => ?_)
        clear hK K
        try simp only [Act.put, List.setIfInBounds_toArray, List.set_cons_zero, List.set_cons_succ]
        refine wpAnyH_ready (rs := [6]) (by kernel_rfl) (by simp) ?_
        refine AllReadyH.cons (o := { dst := some 7, op := Op.alloc 23, type := 0, pos := "ref.go:16", after := #[], guard := none }) rfl (fun K hK => ?_) AllReadyH.nil
        have hs47 : wx46.heap.size = wx46.heap.size := by simp
        go_simp
        have G47 : Below w1.heap.size w1 (wx46.alloc (.cells (u8s (List.replicate 32 0)).toArray 23)) := (G46).alloc (G46).size _
        have ne47 : w1.heap.size ≠ wx46.heap.size := by have h := lt_of_heap F8_46.out; rw [hs47] at h; exact Nat.ne_of_lt h
        have F8_47 := hid (heap_alloc F8_46.out (.cells (u8s (List.replicate 32 0)).toArray 23))
        have F7_47 := hid (show (wx46.alloc (.cells (u8s (List.replicate 32 0)).toArray 23)).heap[wx46.heap.size]? = some (.cells (u8s (List.replicate 32 0)).toArray 23 (0, 0)) from by have h := heap_new wx46 (.cells (u8s (List.replicate 32 0)).toArray 23); rw [hs47] at h; exact h)
        have lo47 : w1.heap.size ≤ wx46.heap.size := by rw [← hs47]; exact (G46).size
        clear hs47
        refine hK.out _ _ (HKP.out _ G47) (fun hHeld => ?_)
        clear hK K
        try simp only [Act.put, List.setIfInBounds_toArray, List.set_cons_zero, List.set_cons_succ]
        refine wpAnyH_ready (rs := [8]) (by kernel_rfl) (by simp) ?_
        refine AllReadyH.cons (o := { dst := none, op := Op.store 23 (Operand.tmp 7) (Operand.tmp 11), type := 0, pos := "ref.go:16", after := #[{ on := 6, ground := Ground.data }, { on := 2, ground := Ground.data }, { on := 5, ground := Ground.chain }, { on := 0, ground := Ground.phase }, { on := 1, ground := Ground.phase }, { on := 2, ground := Ground.phase }, { on := 3, ground := Ground.textOnly Departure.lateStores }, { on := 4, ground := Ground.textOnly Departure.lateStores }, { on := 5, ground := Ground.phase }, { on := 6, ground := Ground.phase }, { on := 7, ground := Ground.phase }], guard := none }) rfl (fun K hK => ?_) AllReadyH.nil
        refine step_store_row rfl 23 (.tmp 7) (.tmp 11) rfl (wx46.heap.size) (u8s (List.replicate 32 0)).toArray VA 23 rfl rfl F7_47.out HIFA.out HIZA.out HONA.out ?_
        intro wx48 hw48 hk48
        have G48 := (G47).trans (hk48.below (G47).size lo47)
        have F8_48 := hid ((hk48.block _ (lt_of_heap F8_47.out) (ne47)).trans F8_47.out)
        have F7_48 := hid hw48
        clear hw48 hk48
        refine hK.out _ _ (HKP.out _ G48) (fun hHeld => ?_)
        clear hK K
        try simp only [Act.put]
        refine wpAnyH_ready (rs := [9]) (by kernel_rfl) (by simp) ?_
        refine AllReadyH.cons (o := { dst := none, op := Op.store 23 (Operand.tmp 8) (Operand.tmp 14), type := 0, pos := "ref.go:16", after := #[{ on := 7, ground := Ground.data }, { on := 5, ground := Ground.data }, { on := 8, ground := Ground.chain }, { on := 0, ground := Ground.phase }, { on := 1, ground := Ground.phase }, { on := 2, ground := Ground.phase }, { on := 3, ground := Ground.phase }, { on := 4, ground := Ground.phase }, { on := 5, ground := Ground.phase }, { on := 6, ground := Ground.phase }, { on := 7, ground := Ground.phase }, { on := 8, ground := Ground.phase }], guard := none }) rfl (fun K hK => ?_) AllReadyH.nil
        refine step_store_row rfl 23 (.tmp 8) (.tmp 14) rfl (w1.heap.size) (u8s (List.replicate 32 0)).toArray VB 23 rfl rfl F8_48.out HIFB.out HIZB.out HONB.out ?_
        intro wx49 hw49 hk49
        have G49 := (G48).trans (hk49.below (G48).size lo44)
        have F7_49 := hid ((hk49.block _ (lt_of_heap F7_48.out) (ne47.symm)).trans F7_48.out)
        have F8_49 := hid hw49
        clear hw49 hk49
        refine hK.out _ _ (HKP.out _ G49) (fun hHeld => ?_)
        clear hK K
        try simp only [Act.put]
        refine wpAnyH_done (by kernel_rfl) ?_ _
        go_wp2_with fail
        go_meet
        exact ⟨_, _, rfl, rfl, hid F7_49.out, hid F8_49.out, hid G49⟩
      refine AllReadyH.cons (o := { dst := some 7, op := Op.alloc 23, type := 0, pos := "ref.go:16", after := #[], guard := none }) rfl (fun K hK => ?_) AllReadyH.nil
      have hs50 : wx45.heap.size = wx45.heap.size := by simp
      go_simp
      have G50 : Below w1.heap.size w1 (wx45.alloc (.cells (u8s (List.replicate 32 0)).toArray 23)) := (G45).alloc (G45).size _
      have ne50 : w1.heap.size ≠ wx45.heap.size := by have h := lt_of_heap F8_45.out; rw [hs50] at h; exact Nat.ne_of_lt h
      have F8_50 := hid (heap_alloc F8_45.out (.cells (u8s (List.replicate 32 0)).toArray 23))
      have F7_50 := hid (show (wx45.alloc (.cells (u8s (List.replicate 32 0)).toArray 23)).heap[wx45.heap.size]? = some (.cells (u8s (List.replicate 32 0)).toArray 23 (0, 0)) from by have h := heap_new wx45 (.cells (u8s (List.replicate 32 0)).toArray 23); rw [hs50] at h; exact h)
      have lo50 : w1.heap.size ≤ wx45.heap.size := by rw [← hs50]; exact (G45).size
      clear hs50
      refine hK.out _ _ (HKP.out _ G50) (fun hHeld => ?_)
      clear hK K
      try simp only [Act.put, List.setIfInBounds_toArray, List.set_cons_zero, List.set_cons_succ]
      refine wpAnyH_ready (rs := [5]) (by kernel_rfl) (by simp) ?_
      refine AllReadyH.cons (o := { dst := some 14, op := Op.call { callee := Callee.value (Operand.func 16), args := #[Operand.tmp 12, Operand.tmp 13], argTypes := #[23, 3] }, type := 23, pos := "ref.go:16", after := #[{ on := 3, ground := Ground.data }, { on := 4, ground := Ground.data }, { on := 2, ground := Ground.chain }], guard := none }) rfl (fun K hK => ?_) AllReadyH.nil
      go_simp
      refine (HSB.out _ (G50)).mono ?_
      rintro e wx51 ⟨rfl, hb51⟩
      have G51 := (G50).trans (hb51.mono (G50).size)
      have F8_51 := hid ((hb51.block _ (lt_of_heap F8_50.out)).trans F8_50.out)
      have F7_51 := hid ((hb51.block _ (lt_of_heap F7_50.out)).trans F7_50.out)
      clear hHeld hb51
      go_wp2_with fail
      refine hK.out _ _ (HKP.out _ G51) (fun hHeld => ?_)
      clear hK K
      try simp only [Act.put, List.setIfInBounds_toArray, List.set_cons_zero, List.set_cons_succ]
      refine wpAnyH_ready (rs := [8]) (by kernel_rfl) (by simp) ?_
      refine AllReadyH.cons (o := { dst := none, op := Op.store 23 (Operand.tmp 7) (Operand.tmp 11), type := 0, pos := "ref.go:16", after := #[{ on := 6, ground := Ground.data }, { on := 2, ground := Ground.data }, { on := 5, ground := Ground.chain }, { on := 0, ground := Ground.phase }, { on := 1, ground := Ground.phase }, { on := 2, ground := Ground.phase }, { on := 3, ground := Ground.textOnly Departure.lateStores }, { on := 4, ground := Ground.textOnly Departure.lateStores }, { on := 5, ground := Ground.phase }, { on := 6, ground := Ground.phase }, { on := 7, ground := Ground.phase }], guard := none }) rfl (fun K hK => ?_) AllReadyH.nil
      refine step_store_row rfl 23 (.tmp 7) (.tmp 11) rfl (wx45.heap.size) (u8s (List.replicate 32 0)).toArray VA 23 rfl rfl F7_51.out HIFA.out HIZA.out HONA.out ?_
      intro wx52 hw52 hk52
      have G52 := (G51).trans (hk52.below (G51).size lo50)
      have F8_52 := hid ((hk52.block _ (lt_of_heap F8_51.out) (ne50)).trans F8_51.out)
      have F7_52 := hid hw52
      clear hw52 hk52
      refine hK.out _ _ (HKP.out _ G52) (fun hHeld => ?_)
      clear hK K
      try simp only [Act.put]
      refine wpAnyH_ready (rs := [9]) (by kernel_rfl) (by simp) ?_
      refine AllReadyH.cons (o := { dst := none, op := Op.store 23 (Operand.tmp 8) (Operand.tmp 14), type := 0, pos := "ref.go:16", after := #[{ on := 7, ground := Ground.data }, { on := 5, ground := Ground.data }, { on := 8, ground := Ground.chain }, { on := 0, ground := Ground.phase }, { on := 1, ground := Ground.phase }, { on := 2, ground := Ground.phase }, { on := 3, ground := Ground.phase }, { on := 4, ground := Ground.phase }, { on := 5, ground := Ground.phase }, { on := 6, ground := Ground.phase }, { on := 7, ground := Ground.phase }, { on := 8, ground := Ground.phase }], guard := none }) rfl (fun K hK => ?_) AllReadyH.nil
      refine step_store_row rfl 23 (.tmp 8) (.tmp 14) rfl (w1.heap.size) (u8s (List.replicate 32 0)).toArray VB 23 rfl rfl F8_52.out HIFB.out HIZB.out HONB.out ?_
      intro wx53 hw53 hk53
      have G53 := (G52).trans (hk53.below (G52).size lo44)
      have F7_53 := hid ((hk53.block _ (lt_of_heap F7_52.out) (ne50.symm)).trans F7_52.out)
      have F8_53 := hid hw53
      clear hw53 hk53
      refine hK.out _ _ (HKP.out _ G53) (fun hHeld => ?_)
      clear hK K
      try simp only [Act.put]
      refine wpAnyH_done (by kernel_rfl) ?_ _
      go_wp2_with fail
      go_meet
      exact ⟨_, _, rfl, rfl, hid F7_53.out, hid F8_53.out, hid G53⟩
    refine AllReadyH.cons (o := { dst := some 7, op := Op.alloc 23, type := 0, pos := "ref.go:16", after := #[], guard := none }) rfl (fun K hK => ?_) AllReadyH.nil
    have hs54 : ((w1.drewN 1).alloc (.cells (u8s (List.replicate 32 0)).toArray 23)).heap.size = w1.heap.size + 1 := by simp
    go_simp
    have G54 : Below w1.heap.size w1 (((w1.drewN 1).alloc (.cells (u8s (List.replicate 32 0)).toArray 23)).alloc (.cells (u8s (List.replicate 32 0)).toArray 23)) := (G44).alloc (G44).size _
    have ne54 : w1.heap.size ≠ w1.heap.size + 1 := by have h := lt_of_heap F8_44.out; rw [hs54] at h; exact Nat.ne_of_lt h
    have F8_54 := hid (heap_alloc F8_44.out (.cells (u8s (List.replicate 32 0)).toArray 23))
    have F7_54 := hid (show (((w1.drewN 1).alloc (.cells (u8s (List.replicate 32 0)).toArray 23)).alloc (.cells (u8s (List.replicate 32 0)).toArray 23)).heap[w1.heap.size + 1]? = some (.cells (u8s (List.replicate 32 0)).toArray 23 (0, 0)) from by have h := heap_new ((w1.drewN 1).alloc (.cells (u8s (List.replicate 32 0)).toArray 23)) (.cells (u8s (List.replicate 32 0)).toArray 23); rw [hs54] at h; exact h)
    have lo54 : w1.heap.size ≤ w1.heap.size + 1 := by rw [← hs54]; exact (G44).size
    clear hs54
    refine hK.out _ _ (HKP.out _ G54) (fun hHeld => ?_)
    clear hK K
    try simp only [Act.put, List.setIfInBounds_toArray, List.set_cons_zero, List.set_cons_succ]
    refine wpAnyH_ready (rs := [2]) (by kernel_rfl) (by simp) ?_
    refine AllReadyH.cons (o := { dst := some 11, op := Op.call { callee := Callee.value (Operand.func 16), args := #[Operand.tmp 9, Operand.tmp 10], argTypes := #[23, 3] }, type := 23, pos := "ref.go:16", after := #[{ on := 0, ground := Ground.data }, { on := 1, ground := Ground.data }], guard := none }) rfl (fun K hK => ?_) AllReadyH.nil
    go_simp
    refine (HSA.out _ (G54)).mono ?_
    rintro e wx55 ⟨rfl, hb55⟩
    have G55 := (G54).trans (hb55.mono (G54).size)
    have F8_55 := hid ((hb55.block _ (lt_of_heap F8_54.out)).trans F8_54.out)
    have F7_55 := hid ((hb55.block _ (lt_of_heap F7_54.out)).trans F7_54.out)
    clear hHeld hb55
    go_wp2_with fail
    refine hK.out _ _ (HKP.out _ G55) (fun hHeld => ?_)
    clear hK K
    try simp only [Act.put, List.setIfInBounds_toArray, List.set_cons_zero, List.set_cons_succ]
    refine wpAnyH_ready (rs := [5]) (by kernel_rfl) (by simp) ?_
    refine AllReadyH.cons (o := { dst := some 14, op := Op.call { callee := Callee.value (Operand.func 16), args := #[Operand.tmp 12, Operand.tmp 13], argTypes := #[23, 3] }, type := 23, pos := "ref.go:16", after := #[{ on := 3, ground := Ground.data }, { on := 4, ground := Ground.data }, { on := 2, ground := Ground.chain }], guard := none }) rfl (fun K hK => ?_) AllReadyH.nil
    go_simp
    refine (HSB.out _ (G55)).mono ?_
    rintro e wx56 ⟨rfl, hb56⟩
    have G56 := (G55).trans (hb56.mono (G55).size)
    have F8_56 := hid ((hb56.block _ (lt_of_heap F8_55.out)).trans F8_55.out)
    have F7_56 := hid ((hb56.block _ (lt_of_heap F7_55.out)).trans F7_55.out)
    clear hHeld hb56
    go_wp2_with fail
    refine hK.out _ _ (HKP.out _ G56) (fun hHeld => ?_)
    clear hK K
    try simp only [Act.put, List.setIfInBounds_toArray, List.set_cons_zero, List.set_cons_succ]
    refine wpAnyH_ready (rs := [8]) (by kernel_rfl) (by simp) ?_
    refine AllReadyH.cons (o := { dst := none, op := Op.store 23 (Operand.tmp 7) (Operand.tmp 11), type := 0, pos := "ref.go:16", after := #[{ on := 6, ground := Ground.data }, { on := 2, ground := Ground.data }, { on := 5, ground := Ground.chain }, { on := 0, ground := Ground.phase }, { on := 1, ground := Ground.phase }, { on := 2, ground := Ground.phase }, { on := 3, ground := Ground.textOnly Departure.lateStores }, { on := 4, ground := Ground.textOnly Departure.lateStores }, { on := 5, ground := Ground.phase }, { on := 6, ground := Ground.phase }, { on := 7, ground := Ground.phase }], guard := none }) rfl (fun K hK => ?_) AllReadyH.nil
    refine step_store_row rfl 23 (.tmp 7) (.tmp 11) rfl (w1.heap.size + 1) (u8s (List.replicate 32 0)).toArray VA 23 rfl rfl F7_56.out HIFA.out HIZA.out HONA.out ?_
    intro wx57 hw57 hk57
    have G57 := (G56).trans (hk57.below (G56).size lo54)
    have F8_57 := hid ((hk57.block _ (lt_of_heap F8_56.out) (ne54)).trans F8_56.out)
    have F7_57 := hid hw57
    clear hw57 hk57
    refine hK.out _ _ (HKP.out _ G57) (fun hHeld => ?_)
    clear hK K
    try simp only [Act.put]
    refine wpAnyH_ready (rs := [9]) (by kernel_rfl) (by simp) ?_
    refine AllReadyH.cons (o := { dst := none, op := Op.store 23 (Operand.tmp 8) (Operand.tmp 14), type := 0, pos := "ref.go:16", after := #[{ on := 7, ground := Ground.data }, { on := 5, ground := Ground.data }, { on := 8, ground := Ground.chain }, { on := 0, ground := Ground.phase }, { on := 1, ground := Ground.phase }, { on := 2, ground := Ground.phase }, { on := 3, ground := Ground.phase }, { on := 4, ground := Ground.phase }, { on := 5, ground := Ground.phase }, { on := 6, ground := Ground.phase }, { on := 7, ground := Ground.phase }, { on := 8, ground := Ground.phase }], guard := none }) rfl (fun K hK => ?_) AllReadyH.nil
    refine step_store_row rfl 23 (.tmp 8) (.tmp 14) rfl (w1.heap.size) (u8s (List.replicate 32 0)).toArray VB 23 rfl rfl F8_57.out HIFB.out HIZB.out HONB.out ?_
    intro wx58 hw58 hk58
    have G58 := (G57).trans (hk58.below (G57).size lo44)
    have F7_58 := hid ((hk58.block _ (lt_of_heap F7_57.out) (ne54.symm)).trans F7_57.out)
    have F8_58 := hid hw58
    clear hw58 hk58
    refine hK.out _ _ (HKP.out _ G58) (fun hHeld => ?_)
    clear hK K
    try simp only [Act.put]
    refine wpAnyH_done (by kernel_rfl) ?_ _
    go_wp2_with fail
    go_meet
    exact ⟨_, _, rfl, rfl, hid F7_58.out, hid F8_58.out, hid G58⟩
  case rest =>
    obtain ⟨b7, b8, rfl, rfl, H7, H8, HB⟩ := hcut
    have HBE := hid (HB1.out.trans (HB.out.mono HB1.out.size))
    have HD7 := hid (show OwnD wc b7 SA from by have h := H7.out; rw [HVA.out] at h; exact h)
    have HD8 := hid (show OwnD wc b8 SB from by have h := H8.out; rw [HVB.out] at h; exact h)
    have HRG7 := hid (range_own HD7.out)
    have HRG8 := hid (range_own HD8.out)
    have HI7 := hid (infoD SA HL1.out)
    have HI8 := hid (infoD SB HL2.out)
    have hq := fun wx => HEQ.out wx
    have HT := hid (show (decide (SA = SB) = true → R = decide (a < b)) ∧ (decide (SA = SB) = false → R = Op.bytesLess (bstr SA).toList (bstr SB).toList) from by
      rw [HR.out, HCM.out]
      refine ⟨fun h => ?_, fun h => ?_⟩
      · have e := of_decide_eq_true h
        subst e
        exact cmp_eqS _ _ _
      · rw [bstr_list, bstr_list]
        exact cmp_str _ _ _ _ h HLA.out HLB.out)
    have HC7 := hid (fun (q : Nat) => conv_bs ((bs_digR HD7.out HL1.out HLA.out).drewN q))
    have HC8 := hid (fun (q : Nat) => conv_bs ((bs_digR HD8.out HL2.out HLB.out).drewN q))
    rw [HVA.out, HVB.out] at hq
    generalize decide (SA = SB) = E at *
    clear HR
    obtain ⟨S7, hS7⟩ : ∃ y, y = bstr SA := ⟨_, rfl⟩
    obtain ⟨S8, hS8⟩ : ∃ y, y = bstr SB := ⟨_, rfl⟩
    rw [← hS7] at HC7 HT
    rw [← hS8] at HC8 HT
    clear hS7 hS8 HEQ HCM HIFA HIFB HIZA HIZB HONA HONB HSA HSB HKP H7 H8
    cases E with
    | true =>
      have hR := HT.out.1 rfl
      subst hR
      go_wp2_with (first
        | (refine wpList_load_mid (by rfl) 23 (.tmp 7) (by rfl) b7 0 (by rfl) (u8s SA) _ HRG7.out Tryz.underlying23 rfl HI7.out ?_)
        | (refine wpList_load_mid (by rfl) 23 (.tmp 8) (by rfl) b8 0 (by rfl) (u8s SB) _ HRG8.out Tryz.underlying23 rfl HI8.out ?_))
      go_ret
      exact ⟨rfl, HBE.out⟩
    | false =>
      have hR := HT.out.2 rfl
      subst hR
      go_wp2_with (first
        | (refine wpList_load_mid (by rfl) 23 (.tmp 7) (by rfl) b7 0 (by rfl) (u8s SA) _ HRG7.out Tryz.underlying23 rfl HI7.out ?_)
        | (refine wpList_load_mid (by rfl) 23 (.tmp 8) (by rfl) b8 0 (by rfl) (u8s SB) _ HRG8.out Tryz.underlying23 rfl HI8.out ?_))
      have c7 := HC7.out
      have c8 := HC8.out
      go_quiet (fail)
      go_wp2_with fail
      go_ret
      exact ⟨rfl, bel_drewN HBE.out _⟩
end Go.Proofs.YtjgiiciniplbnaaGreatDoor

namespace Go.Proofs.YtjgiiciniplbnaaGreatDoor
open Go Go.RowKit Go.Lib Go.Sort
set_option linter.unusedVariables false

theorem wp_appendG {w : World} {o : Oper} {a : Act} {K : Act → World → Prop} {Q : Exit → Act → World → Prop} (s x : Operand)
    (ho : o.op = .call { callee := .builtin .append, args := #[s, x], argTypes := #[27, 27] }) (g0 : Nat) (v0 : Value) (m0 : Nat) (l0 : List Int) (hs : a.eval s = v0) (hown : w.ownsRow g0 3 1 v0 m0 (i64z l0)) (hm0 : m0 ≤ 1000000)
    (sa : Option Addr) (m c : Nat) (l : List Int) (hx : a.eval x = .slice sa m c) (hb : Is w (.slice sa m c) l) (hnil : sa = none → c = 0) (hmc : m ≤ c) (hm : m ≤ 461168601842) (hbase : g0 ≤ w.heap.size)
    (h : ∀ v' w', w'.ownsRow g0 3 1 v' (m0 + m) (i64z (l0 ++ l)) → w.grownBy w' v0.ownBlock → K (a.put o.dst v') w') :
    Oper.wp Tryz.prog o a w K Q := by
  obtain ⟨i0, hi, hz0, hz1, hz2⟩ := info_parts infoZ
  have hlen := hb.lenP
  cases sa with
  | none =>
    obtain rfl := hnil rfl
    obtain rfl : m = 0 := by omega
    have hl0 : l = [] := List.eq_nil_of_length_eq_zero (by omega)
    subst hl0
    have hrun := run_append_owned_none (P := Tryz.prog) (w := w) g0 27 o.type 3 i0 1 Tryz.underlying27 hi v0 m0 (i64z l0) hown
    unfold Oper.wp
    simp [execOp, ho, resolve, invoke, builtin, hs, hx, hrun, Result.andThen]
    exact h _ _ (by simpa using hown) ⟨rfl, rfl, rfl, Nat.le_refl _, fun _ _ _ => rfl⟩
  | some ad =>
    have hnews : ∀ j u, (i64z l)[j]? = some u → w.cell? (ad.add j) = some u := fun j u hj => by
      have hjl : j < l.length := by have := (List.getElem?_eq_some_iff.1 hj).1; simpa [i64z] using this
      obtain ⟨b, o, hv, hc⟩ := hb.atP j (by omega)
      simp only [Option.some.injEq] at hv
      subst hv
      have e : (⟨b, o, none⟩ : Addr).add j = ⟨b, o + j, none⟩ := by unfold Addr.add; split <;> simp_all
      rw [e, hc, ← hj]
      simp [i64z, List.getElem?_eq_getElem hjl, List.getD_eq_getElem?_getD]
    refine wp_append_own w s x _ ho g0 3 i0 (.int .i64 0) 1 8 Tryz.underlying27 hi hz0 hz1 hz2 rfl (by decide) _ m0 (i64z l0) hs hown ad m c (i64z l) hx (by simp [i64z]; omega) hnews (fun u hu => by
      unfold i64z at hu
      obtain ⟨y, _, rfl⟩ := List.mem_map.1 hu
      rfl) (by unfold maxLen; omega) (by omega) (by omega) ?_
    intro v' w' hown' hg _
    exact h v' w' (by rw [show i64z (l0 ++ l) = i64z l0 ++ i64z l from by simp [i64z]]; exact hown') hg
theorem step_appendG {ops : Array Oper} {w : World} {o : Oper} {a : Act} {K : Act → World → Prop} {Q : Exit → Act → World → Prop} {E : Prop} (hgd : o.guard = none) (s x : Operand)
    (ho : o.op = .call { callee := .builtin .append, args := #[s, x], argTypes := #[27, 27] }) (g0 : Nat) (v0 : Value) (m0 : Nat) (l0 : List Int) (hs : a.eval s = v0) (hown : w.ownsRow g0 3 1 v0 m0 (i64z l0)) (hm0 : m0 ≤ 1000000)
    (sa : Option Addr) (m c : Nat) (l : List Int) (hx : a.eval x = .slice sa m c) (hb : Is w (.slice sa m c) l) (hnil : sa = none → c = 0) (hmc : m ≤ c) (hm : m ≤ 461168601842) (hbase : g0 ≤ w.heap.size)
    (h : ∀ v' w', w'.ownsRow g0 3 1 v' (m0 + m) (i64z (l0 ++ l)) → w.grownBy w' v0.ownBlock → K (a.put o.dst v') w') :
    if Region.wanted o (yielded ops a.tmps) = true then Oper.wp Tryz.prog o a w K Q else E := by
  rw [if_pos (by simp [Region.wanted, hgd])]
  exact wp_appendG s x ho g0 v0 m0 l0 hs hown hm0 sa m c l hx hb hnil hmc hm hbase h
theorem wpList_appendG {w : World} {ops : Array Oper} {rest : List Oper} {o : Oper} {a : Act} {Q : Exit → Act → World → Prop} (hgd : o.guard = none) (s x : Operand)
    (ho : o.op = .call { callee := .builtin .append, args := #[s, x], argTypes := #[27, 27] }) (g0 : Nat) (v0 : Value) (m0 : Nat) (l0 : List Int) (hs : a.eval s = v0) (hown : w.ownsRow g0 3 1 v0 m0 (i64z l0)) (hm0 : m0 ≤ 1000000)
    (sa : Option Addr) (m c : Nat) (l : List Int) (hx : a.eval x = .slice sa m c) (hb : Is w (.slice sa m c) l) (hnil : sa = none → c = 0) (hmc : m ≤ c) (hm : m ≤ 461168601842) (hbase : g0 ≤ w.heap.size)
    (h : ∀ v' w', w'.ownsRow g0 3 1 v' (m0 + m) (i64z (l0 ++ l)) → w.grownBy w' v0.ownBlock → wpList Tryz.prog ops Q rest (a.put o.dst v') w') :
    wpList Tryz.prog ops Q (o :: rest) a w :=
  wpList_plain hgd fun K hK => wp_appendG s x ho g0 v0 m0 l0 hs hown hm0 sa m c l hx hb hnil hmc hm hbase fun v' w' h1 h2 => hK _ _ (h v' w' h1 h2)
/-- numbers in another block than the row that grew -/
theorem Is.grown {w w' : World} {a : Option Addr} {n c : Nat} {l : List Int} {row : Option Nat} (h : Is w (.slice a n c) l) (g : w.grownBy w' row) (hne : ∀ ad, a = some ad → some ad.block ≠ row) : Is w' (.slice a n c) l := by
  obtain ⟨a', c', h1, h2, h3⟩ := h
  simp only [Value.slice.injEq] at h1
  obtain ⟨rfl, rfl, rfl⟩ := h1
  refine ⟨a, c, rfl, h2, fun hl => ?_⟩
  obtain ⟨b, o, ha, hc⟩ := h3 hl
  refine ⟨b, o, ha, fun i hi => ?_⟩
  have hi2 := hc i hi
  rw [World.cell?_of_block (g.block b (World.block_lt_of_cell? _ _ hi2) (hne _ ha))]
  exact hi2
end Go.Proofs.YtjgiiciniplbnaaGreatDoor

namespace Go.Proofs.YtjgiiciniplbnaaGreatDoor
open Go Go.RowKit Go.Lib Go.Sort
set_option linter.unusedVariables false
theorem ne_type {w : World} {a b : Nat} {x y : Array Value} {T U : TypeId} {f g : Nat × Nat} (h : w.heap[a]? = some (.cells x T f)) (k : w.heap[b]? = some (.cells y U g)) (hT : T ≠ U) : a ≠ b := fun e => by
  subst e
  rw [h] at k
  simp only [Option.some.injEq, Obj.cells.injEq] at k
  exact hT k.2.1
theorem owns_typed {w : World} {B s m : Nat} {e : TypeId} {v : Value} {xs : List Value} (h : w.ownsRow B e s v m xs) : ∀ g, v.ownBlock = some g → ∃ c, w.heap[g]? = some (.cells c e (0, 0)) := fun q hq => by
  obtain ⟨_, h2⟩ := h
  rcases h2 with ⟨rfl, _⟩ | ⟨g, cap, cur, rfl, _, hg, _⟩
  · cases hq
  · cases hq; exact ⟨_, hg⟩
theorem owns_ltW {w : World} {base size : Nat} {e : TypeId} {v : Value} {m : Nat} {xs : List Value} (h : w.ownsRow base e size v m xs) : ∀ q, v.ownBlock = some q → q < w.heap.size := fun q hq => by
  obtain ⟨c, hc⟩ := owns_typed h q hq
  exact lt_of_heap hc
theorem owns_keep {w w' : World} {B s m : Nat} {e : TypeId} {v : Value} {xs : List Value} (h : w.ownsRow B e s v m xs) (hk : ∀ g, v.ownBlock = some g → w'.heap[g]? = w.heap[g]?) : w'.ownsRow B e s v m xs := by
  obtain ⟨h1, h2⟩ := h
  refine ⟨h1, ?_⟩
  rcases h2 with h3 | ⟨g, cap, cur, rfl, h4, hg, r⟩
  · exact .inl h3
  · exact .inr ⟨g, cap, cur, rfl, h4, (hk g rfl).trans hg, r⟩
theorem fromI (g o n c k : Nat) (h : k ≤ n) (hc : n ≤ c) (w' : World) : (Instr.sliceAt 27 (.slice (some ⟨g, o, none⟩) n c) (some (.int .i64 (k : Int))) none none).run Tryz.prog w' = .ok (.slice (some (if c = k then (⟨g, o, none⟩ : Addr) else ⟨g, o + k, none⟩)) (n - k) (c - k)) w' := by
  have u1 : (k : Int) ≤ (n : Int) := by omega
  have u2 : (0 : Int) ≤ (k : Int) := by omega
  by_cases hk : c = k
  · simp [go_sem, Tryz.underlying27, Tryz.sizeOf3, u1, u2, hk]
  · simp [go_sem, Tryz.underlying27, Tryz.sizeOf3, u1, u2, hk]
theorem run_slice_opI {P : Program} {ev : Operand → Value} {o : Oper} {ty : TypeId} {x : Operand} {lo hi mx : Option Operand} {w : World} {v xv : Value} {lv hv mv : Option Value} (h : (Instr.sliceAt ty xv lv hv mv).run P w = .ok v w) (ho : o.op = .slice ty x lo hi mx := by rfl) (hx : ev x = xv := by rfl) (hl : lo.map ev = lv := by rfl) (hh : hi.map ev = hv := by rfl) (hm : mx.map ev = mv := by rfl) :
    (execOp ev o).run P w = .ok (.value v) w := by
  subst hx hl hh hm
  unfold execOp
  simp only [ho]
  simp [h]
/-- the beginning and the rest of a list in memory -/
theorem Is.takeI {w : World} {g o n c : Nat} {l : List Int} (h : Is w (.slice (some ⟨g, o, none⟩) n c) l) (k : Nat) (hk : k ≤ n) : Is w (.slice (some ⟨g, o, none⟩) k c) (l.take k) := by
  obtain ⟨a', c', h1, h2, h3⟩ := h
  simp only [Value.slice.injEq] at h1
  obtain ⟨rfl, rfl, rfl⟩ := h1
  have hl : (l.take k).length = k := by rw [List.length_take]; omega
  refine ⟨_, c, by rw [hl], fun x hx => h2 x (List.mem_of_mem_take hx), fun hne => ?_⟩
  have hl0 : l ≠ [] := by rintro rfl; simp at hne
  obtain ⟨b, o', ha, hc⟩ := h3 hl0
  refine ⟨b, o', ha, fun i hi => ?_⟩
  rw [hl] at hi
  rw [hc i (by omega), List.getD_eq_getElem?_getD, List.getD_eq_getElem?_getD, List.getElem?_take_of_lt hi]
theorem Is.dropI {w : World} {g o n c : Nat} {l : List Int} (h : Is w (.slice (some ⟨g, o, none⟩) n c) l) (hnc : n ≤ c) (k : Nat) (hk : k ≤ n) : Is w (.slice (some (if c = k then (⟨g, o, none⟩ : Addr) else ⟨g, o + k, none⟩)) (n - k) (c - k)) (l.drop k) := by
  obtain ⟨a', c', h1, h2, h3⟩ := h
  simp only [Value.slice.injEq] at h1
  obtain ⟨rfl, rfl, rfl⟩ := h1
  have hl : (l.drop k).length = l.length - k := by rw [List.length_drop]
  refine ⟨_, _, by rw [hl], fun x hx => h2 x (List.mem_of_mem_drop hx), fun hne => ?_⟩
  have hlt : k < l.length := by
    rcases Nat.lt_or_ge k l.length with h | h
    · exact h
    · exact absurd (List.drop_eq_nil_of_le h) hne
  rw [if_neg (by omega)]
  obtain ⟨b, o', ha, hc⟩ := h3 (by rintro rfl; simp at hlt)
  simp only [Option.some.injEq, Addr.mk.injEq] at ha
  obtain ⟨rfl, rfl, _⟩ := ha
  refine ⟨g, o + k, rfl, fun i hi => ?_⟩
  rw [Nat.add_assoc, hc (k + i) (by omega), List.getD_eq_getElem?_getD, List.getD_eq_getElem?_getD, List.getElem?_drop]
theorem wfN (l : List Nat) (h : ∀ x ∈ l, x < 1000000) : ∀ n ∈ l.map Int.ofNat, (Lit.int .i64 n).wf = true := fun n hn => by
  obtain ⟨y, hy, rfl⟩ := List.mem_map.1 hn
  have := h y hy
  simp [Lit.wf]
  have e1 : IntKind.i64.min = -9223372036854775808 := rfl
  have e2 : IntKind.i64.max = 9223372036854775807 := rfl
  omega
end Go.Proofs.YtjgiiciniplbnaaGreatDoor

namespace Go.Proofs.YtjgiiciniplbnaaGreatDoor
open Go Go.RowKit Go.Lib Go.Sort
set_option linter.unusedVariables false
theorem getD_mapN (l : List Nat) (i : Nat) (h : i < l.length) : (l.map Int.ofNat).getD i 0 = ((l.getD i 0 : Nat) : Int) := by
  rw [List.getD_eq_getElem?_getD, List.getElem?_eq_getElem (by simpa using h), List.getElem_map, List.getD_eq_getElem?_getD, List.getElem?_eq_getElem h]
  rfl
theorem owns_ltZ {w : World} {base size : Nat} {e : TypeId} {v : Value} {m : Nat} {xs : List Value} (h : w.ownsRow base e size v m xs) : ∀ q, v.ownBlock = some q → q < w.heap.size := fun q hq => by
  obtain ⟨_, h2⟩ := h
  rcases h2 with ⟨rfl, _⟩ | ⟨g, cap, cur, rfl, _, hg, _⟩
  · cases hq
  · cases hq; exact lt_of_heap hg
theorem run_build0I (w : World) : (Instr.buildSlice 27 0 #[]).run Tryz.prog w = .ok (.slice (some ⟨w.heap.size, 0, none⟩) 0 0) (w.alloc (.cells #[] 3)) := by
  simp [go_sem]
theorem step_build0I {ops : Array Oper} {o : Oper} {a : Act} {w : World} {K : Act → World → Prop} {Q : Exit → Act → World → Prop} {E : Prop} (hgd : o.guard = none) (ho : o.op = .buildSlice 27 0 #[])
    (h : ∀ g w', g = w.heap.size → w'.heap[g]? = some (.cells #[] 3 (0, 0)) → Below w.heap.size w w' → g < w'.heap.size → K (a.put o.dst (.slice (some ⟨g, 0, none⟩) 0 0)) w') : if Region.wanted o (yielded ops a.tmps) = true then Oper.wp Tryz.prog o a w K Q else E := by
  refine step_value (P := Tryz.prog) hgd (v := .slice (some ⟨w.heap.size, 0, none⟩) 0 0) (w' := w.alloc (.cells #[] 3)) ?_ (h w.heap.size _ rfl (heap_new _ _) ((Below.refl _ _).alloc (Nat.le_refl _) _) (by simp))
  have h1 := run_build0I w
  unfold execOp
  simp only [ho]
  simp [h1]
set_option maxRecDepth 100000 in
set_option maxHeartbeats 4000000 in
theorem rpeers_any (a : Option Addr) (n c : Nat) (li : List Int) (w : World) (hi : Is w (.slice a n c) li) (hsz : n ≤ 1000000) :
    Calls Tryz.prog 67 #[.slice a n c] w fun e w' => ∃ a' c', e = .returned (.slice a' (memb (setL li) 16).length c') ∧ Is w' (.slice a' (memb (setL li) 16).length c') ((memb (setL li) 16).map Int.ofNat) ∧ (memb (setL li) 16).length ≤ c' ∧ (a' = none → c' = 0) ∧ (∀ ad, a' = some ad → w.heap.size ≤ ad.block ∧ ad.block < w'.heap.size) ∧ Below w.heap.size w w' := by
  have HI := hid hi
  clear hi
  go_enter Tryz.func67, Tryz.ntmps67
  go_wp2
  go_loopw [3, 4] (fun av iv wx => ∃ k : Nat, k ≤ 16 ∧ iv = .int .i64 k ∧ Hid (wx.ownsRow w.heap.size 3 1 av (memb (setL li) k).length (i64z ((memb (setL li) k).map Int.ofNat))) ∧ Hid (Below w.heap.size w wx)) (fun _ iv _ => 16 - (intOf iv).toNat)
  case atStart => exact ⟨0, by omega, rfl, hid (ownsZ_new (heap_new _ _)), hid ((Below.refl _ _).alloc (Nat.le_refl _) _)⟩
  case round =>
    obtain ⟨k, hk, rfl, HOW, HBR⟩ := hrel
    by_cases hk16 : k < 16
    · as_aux_lemma =>
      have hk16' : (k : Int) < 16 := by omega
      have HHAS := hid (Has_any a n c li (k : Int) wr (HI.out.belowP HBR.out) (by omega))
      have HMS := hid (memb_succ (setL li) k)
      have hml := memb_le (setL li) k
      have HWF := hid (show ∀ n ∈ [(k : Int)], (Lit.int .i64 n).wf = true from fun n hn => by
        simp only [List.mem_cons, List.not_mem_nil, or_false] at hn
        subst hn
        simp [Lit.wf]
        have e1 : IntKind.i64.min = -9223372036854775808 := rfl
        have e2 : IntKind.i64.max = 9223372036854775807 := rfl
        omega)
      go_wp2_with fail
      refine HHAS.out.mono ?_
      rintro e w5 ⟨rfl, rfl⟩
      have HSS := hid (show li.contains (k : Int) = setL li k from rfl)
      rw [HSS.out]
      cases hS : setL li k with
      | false =>
        have E1 := hid (show memb (setL li) (k + 1) = memb (setL li) k from by rw [HMS.out, hS]; rfl)
        clear hS HSS
        go_wp2_with fail
        exact ⟨⟨k + 1, by omega, by go_num, by rw [E1.out]; exact HOW, HBR⟩, by simp [intOf]; omega⟩
      | true =>
        have E1 := hid (show memb (setL li) (k + 1) = memb (setL li) k ++ [k] from by rw [HMS.out, hS]; rfl)
        clear hS HSS
        go_wp2_with (
          (have h0 := HWF.out)
          (refine wpList_appendZ (by rfl) (.tmp 13) (.tmp 15) (by rfl) w.heap.size _ (memb (setL li) k).length ((memb (setL li) k).map Int.ofNat) (by rfl) (owns_belowP HOW.out ((Below.refl _ _).alloc (Nat.le_refl _) _)) (by omega) (some ⟨_, 0, none⟩) 1 1 [(k : Int)] (by rfl) (is_i64 _ [(k : Int)] h0) (by intro h; cases h) (by omega) (by omega) (by simp; have := HBR.out.size; omega) ?_)
          (intro v6 w6 hown6 hb6)
          (have HOW6 := hid hown6)
          (have HB6 := hid ((HBR.out.alloc HBR.out.size (.cells #[.int .i64 (k : Int)] 3)).trans hb6))
          (clear hown6 hb6))
        exact ⟨⟨k + 1, by omega, by go_num, by rw [E1.out]; simpa using HOW6, HB6⟩, by simp [intOf]; omega⟩
    · obtain rfl : k = 16 := by omega
      obtain ⟨aa, ac, rfl, -, hac, hisA, hnA, hblA⟩ := is_of_ownsZ HOW.out (fun x hx => by
        obtain ⟨y, hy, rfl⟩ := List.mem_map.1 hx
        have := memb_lt (setL li) 16 y hy
        simp [Lit.wf]
        have e1 : IntKind.i64.min = -9223372036854775808 := rfl
        have e2 : IntKind.i64.max = 9223372036854775807 := rfl
        omega)
      have HEND := hid (show Is wr (.slice aa (memb (setL li) 16).length ac) ((memb (setL li) 16).map Int.ofNat) ∧ (memb (setL li) 16).length ≤ ac ∧ (aa = none → ac = 0) ∧ (∀ ad, aa = some ad → w.heap.size ≤ ad.block ∧ ad.block < wr.heap.size) ∧ Below w.heap.size w wr from ⟨hisA, hac, hnA, hblA, HBR.out⟩)
      clear hisA hac hnA hblA HOW
      go_wp2_with fail
      go_ret
      exact ⟨aa, ac, rfl, HEND.out⟩
end Go.Proofs.YtjgiiciniplbnaaGreatDoor

namespace Go.Proofs.YtjgiiciniplbnaaGreatDoor
open Go Go.RowKit Go.Lib Go.Sort
set_option linter.unusedVariables false

/-- a claim -/
structure Clm where
  od : List Nat
  p : Nat
  t : Int
  deriving Inhabited
structure Clm.Ok (c : Clm) : Prop where
  ho : c.od.length = 32
  hb : ∀ y ∈ c.od, y < 256
  hp : c.p < 16
  t0 : 0 ≤ c.t
  t1 : c.t < 18446744073709551616
def cells3 (od : List Nat) (p : Nat) (t : Int) : List Value := u8s od ++ ([.int .i64 (p : Int), .int .u64 t] : List Value)
def rcl (c : Clm) : List Value := cells3 c.od c.p c.t
theorem cells3_length (od : List Nat) (p : Nat) (t : Int) (h : od.length = 32) : (cells3 od p t).length = 34 := by simp [cells3, u8s, h]
theorem rcl_length (c : Clm) (h : c.Ok) : (rcl c).length = 34 := cells3_length _ _ _ h.ho
theorem rcl_one (c : Clm) : ∀ u ∈ rcl c, u.oneCell' = true := fun u hu => by
  rcases List.mem_append.1 hu with h | h
  · exact u8s_oneH _ u h
  · simp only [List.mem_cons, List.not_mem_nil, or_false] at h
    rcases h with rfl | rfl <;> rfl
theorem rcl_dig (c : Clm) (h : c.Ok) (j : Nat) (hj : j < 32) : (rcl c)[j]? = (u8s c.od)[j]? := List.getElem?_append_left (by simp [u8s, h.ho]; exact hj)
theorem rcl_32 (c : Clm) (h : c.Ok) : (rcl c)[32]? = some (.int .i64 (c.p : Int)) ∧ (rcl c)[33]? = some (.int .u64 c.t) := by
  unfold rcl cells3
  constructor
  · rw [List.getElem?_append_right (by simp [u8s, h.ho])]; simp [u8s, h.ho]
  · rw [List.getElem?_append_right (by simp [u8s, h.ho])]; simp [u8s, h.ho]
def flatC (R : List Clm) : List Value := R.flatMap rcl
theorem flatC_length (R : List Clm) (h : ∀ c ∈ R, c.Ok) : (flatC R).length = R.length * 34 := by
  induction R with
  | nil => rfl
  | cons x l ih =>
    show (rcl x ++ flatC l).length = _
    rw [List.length_append, rcl_length x (h x (List.mem_cons_self ..)), ih (fun c hc => h c (List.mem_cons_of_mem _ hc)), List.length_cons]
    omega
theorem flatC_snoc (R : List Clm) (x : Clm) : flatC (R ++ [x]) = flatC R ++ rcl x := by simp [flatC]
theorem flatC_get : ∀ (R : List Clm) (h : ∀ c ∈ R, c.Ok) (i j : Nat) (hi : i < R.length), j < 34 → (flatC R)[i * 34 + j]? = (rcl R[i])[j]?
  | [], _, i, j, hi, _ => absurd hi (Nat.not_lt_zero _)
  | x :: l, h, 0, j, _, hj => by
    show (rcl x ++ flatC l)[0 * 34 + j]? = _
    rw [List.getElem?_append_left (by rw [rcl_length x (h x (List.mem_cons_self ..))]; omega), Nat.zero_mul, Nat.zero_add]
    rfl
  | x :: l, h, i + 1, j, hi, hj => by
    have h2 : i < l.length := by simpa using hi
    show (rcl x ++ flatC l)[(i + 1) * 34 + j]? = _
    rw [List.getElem?_append_right (by rw [rcl_length x (h x (List.mem_cons_self ..))]; omega), rcl_length x (h x (List.mem_cons_self ..)), show (i + 1) * 34 + j - 34 = i * 34 + j from by omega, flatC_get l (fun c hc => h c (List.mem_cons_of_mem _ hc)) i j h2 hj]
    rfl
/-- a list of claims in memory -/
def Rw (w : World) (v : Value) (R : List Clm) : Prop := w.ownsRow 0 134 34 v R.length (flatC R) ∧ ∀ c ∈ R, c.Ok
theorem Rw.cells {w w' : World} {v : Value} {R : List Clm} (h : Rw w v R) (k : ∀ (q : Nat) (cs : Array Value) (T : TypeId), w.heap[q]? = some (.cells cs T (0, 0)) → w'.heap[q]? = some (.cells cs T (0, 0))) : Rw w' v R := by
  obtain ⟨⟨h1, h2⟩, h3⟩ := h
  exact ⟨⟨h1, h2.imp id fun ⟨g, cap, cur, e1, e2, e3, e4⟩ => ⟨g, cap, cur, e1, e2, k g cur _ e3, e4⟩⟩, h3⟩
theorem Rw.below {w w' : World} {v : Value} {R : List Clm} (h : Rw w v R) (b : Below w.heap.size w w') : Rw w' v R := h.cells fun q cs T e => (b.block q (lt_of_heap e)).trans e
theorem Rw.km {B : Nat} {w w' : World} {v : Value} {R : List Clm} (h : Rw w v R) (k : KM B w w') : Rw w' v R := h.cells fun q cs T e => k.cells e
theorem Rw.form {w : World} {v : Value} {R : List Clm} (h : Rw w v R) : ∃ a c, v = .slice a R.length c := by
  obtain ⟨⟨_, h2⟩, _⟩ := h
  rcases h2 with ⟨rfl, h0⟩ | ⟨g, cap, cur, rfl, _⟩
  · exact ⟨none, 0, by rw [h0]⟩
  · exact ⟨_, _, rfl⟩
theorem Rw.at_ {w : World} {a : Option Addr} {n c : Nat} {R : List Clm} (h : Rw w (.slice a n c) R) (i : Nat) (hi : i < R.length) : ∃ g, a = some ⟨g, 0, none⟩ ∧ w.rangeAt g (i * 34) (rcl R[i]) ∧ g < w.heap.size := by
  obtain ⟨⟨h1, h2⟩, h3⟩ := h
  rcases h2 with ⟨_, h0⟩ | ⟨g, cap, cur, e, h4, hg, h5, h6, h7, h8⟩
  · omega
  · simp only [Value.slice.injEq] at e
    refine ⟨g, e.1, fun j u hj => ?_, lt_of_heap hg⟩
    have hj34 : j < 34 := by have := (List.getElem?_eq_some_iff.1 hj).1; rw [rcl_length _ (h3 _ (List.getElem_mem hi))] at this; exact this
    have h9 : (cur.toList.take (R.length * 34))[i * 34 + j]? = (flatC R)[i * 34 + j]? := by rw [h8]
    rw [List.getElem?_take_of_lt (by omega), flatC_get R h3 i j hi hj34, hj] at h9
    rw [cell_of_heap hg, ← Array.getElem?_toList]
    exact h9
theorem rangeAt_dig {w : World} {g o : Nat} {c : Clm} (h : w.rangeAt g o (rcl c)) (hk : c.Ok) : w.rangeAt g o (u8s c.od) := fun j u hj => h j u (by rw [rcl_dig c hk j (by have := (List.getElem?_eq_some_iff.1 hj).1; simp [u8s, hk.ho] at this; exact this)]; exact hj)
theorem infoC : (Tryz.prog.info? 134).map (fun i => (i.zero, i.size, i.bytes)) = some (some (.agg (cells3 (List.replicate 32 0) 0 0).toArray), 34, 48) := by kernel_rfl
theorem infoCm (c : Clm) (h : c.Ok) : (Tryz.prog.info? 134).map (·.size) = some (rcl c).length := by rw [rcl_length c h]; kernel_rfl
theorem run_build1C (od : List Nat) (p : Nat) (t : Int) (h : od.length = 32) (w : World) : (Instr.buildSlice 42 1 #[(0, .agg (cells3 od p t).toArray)]).run Tryz.prog w = .ok (.slice (some ⟨w.heap.size, 0, none⟩) 1 1) (w.alloc (.cells (cells3 od p t).toArray 134)) := by
  obtain ⟨x0, x1, x2, x3, x4, x5, x6, x7, x8, x9, x10, x11, x12, x13, x14, x15, x16, x17, x18, x19, x20, x21, x22, x23, x24, x25, x26, x27, x28, x29, x30, x31, rfl⟩ := list32 od h
  kernel_rfl
theorem wpList_build1C {ops : Array Oper} {rest : List Oper} {o : Oper} {a : Act} {w : World} {Q : Exit → Act → World → Prop} (hgd : o.guard = none) (x : Operand) (ho : o.op = .buildSlice 42 1 #[(0, x)]) (C : Array Value) (od : List Nat) (p : Nat) (t : Int) (hC : C = (cells3 od p t).toArray) (hs : od.length = 32) (hx : a.eval x = .agg C)
    (h : ∀ w', w' = w.alloc (.cells C 134) → wpList Tryz.prog ops Q rest (a.put o.dst (.slice (some ⟨w.heap.size, 0, none⟩) 1 1)) w') : wpList Tryz.prog ops Q (o :: rest) a w :=
  wpList_plain hgd fun K hK => by
    have h1 := run_build1C od p t hs w
    rw [← hC] at h1
    have hr : (execOp a.eval o).run Tryz.prog w = .ok (.value (.slice (some ⟨w.heap.size, 0, none⟩) 1 1)) (w.alloc (.cells C 134)) := by
      unfold execOp
      simp only [ho]
      simp [hx, h1]
    unfold Oper.wp
    rw [hr]
    exact hK _ _ (h _ rfl)
/-- append(out, c) -/
theorem wpList_appendC {w : World} {ops : Array Oper} {rest : List Oper} {o : Oper} {a : Act} {Q : Exit → Act → World → Prop} (hgd : o.guard = none) (s x : Operand)
    (ho : o.op = .call { callee := .builtin .append, args := #[s, x], argTypes := #[42, 42] }) (g0 : Nat) (v0 : Value) (R : List Clm) (hs : a.eval s = v0) (hR : ∀ c ∈ R, c.Ok) (hown : w.ownsRow g0 134 34 v0 R.length (flatC R)) (hl : R.length ≤ 1000000)
    (b0 : Nat) (c : Clm) (hc : c.Ok) (hx : a.eval x = .slice (some ⟨b0, 0, none⟩) 1 1) (hb : w.heap[b0]? = some (.cells (rcl c).toArray 134 (0, 0))) (hbase : g0 ≤ w.heap.size)
    (h : ∀ v' w', w'.ownsRow g0 134 34 v' (R ++ [c]).length (flatC (R ++ [c])) → Below g0 w w' → wpList Tryz.prog ops Q rest (a.put o.dst v') w') :
    wpList Tryz.prog ops Q (o :: rest) a w := by
  obtain ⟨i0, hi, hz0, hz1, hz2⟩ := info_parts infoC
  refine Go.wpList_append_own _ hgd s x _ ho g0 134 i0 _ 34 48 Tryz.underlying42 hi hz0 hz1 hz2 rfl (by decide) v0 R.length (flatC R) hs hown ⟨b0, 0, none⟩ 1 1 (rcl c) hx (by rw [rcl_length c hc]) (fun j u hj => ?_) (rcl_one c) (by unfold maxLen; omega) (by omega) (by omega) ?_
  · have e : (⟨b0, 0, none⟩ : Addr).add j = ⟨b0, j, none⟩ := by unfold Addr.add; split <;> simp_all
    rw [e, cell_of_heap hb, List.getElem?_toArray]
    exact hj
  · intro v' w' hown' hg _
    rw [← flatC_snoc] at hown'
    exact h v' w' (by rw [List.length_append]; exact hown') ((Below.refl g0 w).grown hg hbase (fun q hq => (hown.lt q hq).1))
set_option maxRecDepth 100000 in
set_option maxHeartbeats 4000000 in
theorem rcur_any (c : Clm) (h : c.Ok) (clock : Int) (hc0 : 0 ≤ clock) (hc1 : clock < 18446744073709551616) (w : World) :
    Calls Tryz.prog 71 #[.agg (rcl c).toArray, .int .u64 clock] w fun e w' => e = .returned (.bool (curr c.t clock)) ∧ Below w.heap.size w w' := by
  obtain ⟨w1, hw1⟩ : ∃ y, y = w.alloc (.cells (rcl c).toArray 134) := ⟨_, rfl⟩
  have HB1 := hid (show Below w.heap.size w w1 from by rw [hw1]; exact (Below.refl _ _).alloc (Nat.le_refl _) _)
  have h33 : w1.cell? ⟨w.heap.size, 33, none⟩ = some (.int .u64 c.t) := by rw [hw1, cell_of_heap (heap_new _ _), List.getElem?_toArray]; exact (rcl_32 c h).2
  have HW1 := hid hw1
  obtain ⟨CC, hCC⟩ : ∃ y, y = (rcl c).toArray := ⟨_, rfl⟩
  rw [← hCC] at HW1 ⊢
  obtain ⟨t, ht⟩ : ∃ y, y = c.t := ⟨_, rfl⟩
  have ht0 := h.t0
  have ht1 := h.t1
  rw [← ht] at h33 ht0 ht1 ⊢
  clear hw1 hCC ht h
  by_cases h1 : t ≤ clock
  · have hw : IntKind.u64.wrap (clock - t) = clock - t := by
      rw [IntKind.wrap_u64]
      omega
    by_cases h5 : clock - t < 12
    · have e : curr t clock = true := by unfold curr; simp [h1, h5]
      rw [e]
      go_enter Tryz.func71, Tryz.ntmps71
      go_upto_region 1 with fail
      rw [← HW1.out]
      go_wp2
      go_ret
      exact ⟨rfl, HB1.out⟩
    · have e : curr t clock = false := by unfold curr; simp [h5]
      rw [e]
      go_enter Tryz.func71, Tryz.ntmps71
      go_upto_region 1 with fail
      rw [← HW1.out]
      go_wp2
      go_ret
      exact ⟨rfl, HB1.out⟩
  · have e : curr t clock = false := by unfold curr; simp [h1]
    rw [e]
    go_enter Tryz.func71, Tryz.ntmps71
    go_upto_region 1 with fail
    rw [← HW1.out]
    go_wp2
    go_ret
    exact ⟨rfl, HB1.out⟩
end Go.Proofs.YtjgiiciniplbnaaGreatDoor

namespace Go.Proofs.YtjgiiciniplbnaaGreatDoor
open Go Go.RowKit Go.Lib Go.Sort
set_option linter.unusedVariables false

theorem take_snoc {α : Type} (l : List α) (i : Nat) (h : i < l.length) : l.take (i + 1) = l.take i ++ [l[i]] := by
  rw [List.take_add_one, List.getElem?_eq_getElem h]
  rfl
theorem ok_filter {R : List Clm} (h : ∀ c ∈ R, c.Ok) (f : Clm → Bool) (i : Nat) : ∀ c ∈ (R.take i).filter f, c.Ok := fun c hc => h c (List.mem_of_mem_take (List.mem_filter.1 hc).1)
theorem filter_len {R : List Clm} (f : Clm → Bool) (i : Nat) : ((R.take i).filter f).length ≤ R.length := by
  have h1 := List.length_filter_le f (R.take i)
  have h2 : (R.take i).length ≤ R.length := by rw [List.length_take]; omega
  omega
set_option maxRecDepth 100000 in
set_option maxHeartbeats 8000000 in
theorem rSweep_any (R : List Clm) (hl : R.length ≤ 100000) (a : Option Addr) (c : Nat) (clock : Int) (hc0 : 0 ≤ clock) (hc1 : clock < 18446744073709551616) (w : World) (hR : Rw w (.slice a R.length c) R) :
    Calls Tryz.prog 36 #[.slice a R.length c, .int .u64 clock] w fun e w' => ∃ v, e = .returned v ∧ Rw w' v (R.filter fun x => curr x.t clock) ∧ Below w.heap.size w w' := by
  obtain ⟨f, hf⟩ : ∃ y : Clm → Bool, y = fun x => curr x.t clock := ⟨_, rfl⟩
  have HF := hid hf
  have HR := hid hR
  have HOK := hid hR.2
  obtain ⟨n, hn⟩ : ∃ y, y = R.length := ⟨_, rfl⟩
  have HN := hid hn
  rw [← hf]
  rw [← hn] at hl ⊢
  rw [← hn] at HR
  clear hf hR hn
  go_enter Tryz.func36, Tryz.ntmps36
  go_wp2_with fail
  go_loopw [5, 6] (fun av iv wx => ∃ i : Nat, i ≤ n ∧ iv = .int .i64 i ∧ Hid (wx.ownsRow w.heap.size 134 34 av ((R.take i).filter f).length (flatC ((R.take i).filter f))) ∧ Hid (Below w.heap.size w wx)) (fun _ iv _ => n - (intOf iv).toNat)
  case atStart => exact ⟨0, by omega, rfl, hid ⟨rfl, .inr ⟨w.heap.size, 0, #[], rfl, Nat.le_refl _, heap_new _ _, Nat.le_refl _, Nat.zero_le _, rfl, rfl⟩⟩, hid ((Below.refl _ _).alloc (Nat.le_refl _) _)⟩
  case round =>
  obtain ⟨i, hi, rfl, HOW, HBR⟩ := hrel
  rcases Nat.lt_or_ge i n with hin | hin
  · as_aux_lemma =>
    have hin' : (i : Int) < (n : Int) := by omega
    have hi0 : (0 : Int) ≤ (i : Int) := by omega
    have hiR : i < R.length := by rw [← HN.out]; exact hin
    obtain ⟨g, rfl, hrg, hgl⟩ := (HR.out.below HBR.out).at_ i hiR
    obtain ⟨q, hq⟩ : ∃ y, y = R[i] := ⟨_, rfl⟩
    rw [← hq] at hrg
    have HQ := hid hq
    have HRG := hid hrg
    have HQO := hid (show q.Ok from by rw [hq]; exact HOK.out _ (List.getElem_mem hiR))
    have HIF := hid (infoCm q HQO.out)
    have HTK := hid (take_snoc R i hiR)
    have HCU := hid (fun wx => rcur_any q HQO.out clock hc0 hc1 wx)
    obtain ⟨C, hC⟩ : ∃ y, y = (rcl q).toArray := ⟨_, rfl⟩
    have HC := hid hC
    clear hrg hq
    obtain ⟨G, hG⟩ : ∃ y, y = i * 34 := ⟨_, rfl⟩
    rw [← hG] at HRG
    have hG2 : i * 34 = G := hG.symm
    clear hG hgl
    go_wp2_with (refine wpList_load_mid (by rfl) 134 (.tmp 16) (by rfl) g G (by rfl) (rcl q) _ HRG.out Tryz.underlying134 rfl HIF.out ?_)
    refine (HCU.out wr).mono ?_
    rintro e w4 ⟨rfl, hb4⟩
    have HB4 := hid (HBR.out.trans (hb4.mono HBR.out.size))
    have HRG4 := hid (show w4.rangeAt g G (rcl q) from fun j u hj => (hb4.cell (World.block_lt_of_cell? _ _ (HRG.out j u hj))).trans (HRG.out j u hj))
    have HOW4 := hid (owns_belowP HOW.out hb4)
    clear hb4
    rcases Bool.eq_false_or_eq_true (curr q.t clock) with hcu | hcu
    · have HFE := hid (show (R.take (i + 1)).filter f = (R.take i).filter f ++ [q] from by rw [HTK.out, List.filter_append, ← HQ.out, HF.out]; simp [hcu])
      have HLE := hid (show ((R.take i).filter f).length ≤ 100000 from by have := filter_len (R := R) f i; have := HN.out; omega)
      rw [hcu]
      clear hcu
      go_wp2_with (first
        | (refine wpList_load_mid (by rfl) 134 (.tmp 23) (by rfl) g G (by rfl) (rcl q) _ HRG4.out Tryz.underlying134 rfl HIF.out ?_)
        | (refine wpList_build1C (by rfl) (.tmp 24) (by rfl) (rcl q).toArray q.od q.p q.t rfl HQO.out.ho (by rfl) ?_
           intro w5 hw5
           have HB45 := hid (show Below w4.heap.size w4 w5 from by rw [hw5]; exact (Below.refl _ _).alloc (Nat.le_refl _) _)
           have HW5 := hid (show w5.heap[w4.heap.size]? = some (.cells (rcl q).toArray 134 (0, 0)) from by rw [hw5]; exact heap_new _ _)
           have HOW5 := hid (owns_belowP HOW4.out HB45.out)
           clear hw5)
        | (refine wpList_appendC (by rfl) (.tmp 20) (.tmp 25) (by rfl) w.heap.size _ ((R.take i).filter f) (by rfl) (ok_filter HOK.out f i) HOW5.out (by have := HLE.out; omega) w4.heap.size q HQO.out (by rfl) HW5.out (Nat.le_trans HB4.out.size HB45.out.size) ?_
           intro v6 w6 hown6 hb6
           rw [← HFE.out] at hown6
           have HOW6 := hid hown6
           have HB6 := hid ((HB4.out.trans (HB45.out.mono HB4.out.size)).trans hb6)
           clear hown6 hb6))
      exact ⟨⟨i + 1, by omega, by go_num, HOW6, HB6⟩, by simp [intOf]; omega⟩
    · have HFE := hid (show (R.take (i + 1)).filter f = (R.take i).filter f from by rw [HTK.out, List.filter_append, ← HQ.out, HF.out]; simp [hcu])
      rw [hcu]
      clear hcu
      go_wp2_with fail
      exact ⟨⟨i + 1, by omega, by go_num, by rw [HFE.out]; exact HOW4, HB4⟩, by simp [intOf]; omega⟩
  · obtain rfl : n = i := by omega
    have hin' : ¬ (n : Int) < (n : Int) := by omega
    have HT := hid (show R.take n = R from by rw [HN.out]; exact List.take_length)
    rw [HT.out] at HOW
    go_wp2_with fail
    go_ret
    refine ⟨_, rfl, ⟨?_, fun c hc => HOK.out c (List.mem_filter.1 hc).1⟩, HBR.out⟩
    exact ⟨HOW.out.1, HOW.out.2.imp id fun ⟨g, cap, cur, e1, e2, e3⟩ => ⟨g, cap, cur, e1, Nat.zero_le _, e3⟩⟩
end Go.Proofs.YtjgiiciniplbnaaGreatDoor
