/-
  The reference's Unit, Powers and Basis.
-/
import Derived.Test.YtndkcabmaigneaaGen
import Derived.Test.YtndkcabmaigneaaSel2
namespace Go.Proofs.Ytndkcabmaigneaa
open Go Go.RowKit
set_option linter.unusedVariables false

set_option maxRecDepth 100000 in
set_option maxHeartbeats 1000000 in
theorem Unit_ok (n : Nat) (h1 : 1 ≤ n) (h2 : n ≤ 255) (w : World) :
    Calls Try.prog 57 #[.int .i64 n] w fun e w' => MatRes w.heap.size n n (flat n n idM) 0 e w' ∧ Below w.heap.size w w' := by
  have q1 : decide ((n : Int) < 1) = false := by simp; omega
  have q2 : decide ((255 : Int) < (n : Int)) = false := by simp; omega
  obtain ⟨w1, hw1⟩ : ∃ w1, w1 = w.alloc (Obj.cells #[.int .i64 0, .int .i64 0, .slice none 0 0] 52) := ⟨_, rfl⟩
  have hbel : Below w.heap.size w w1 := by rw [hw1]; exact (Below.refl _ _).alloc (Nat.le_refl _) _
  have h0 : w1.heap[w.heap.size]? = some (Obj.cells #[.int .i64 0, .int .i64 0, .slice none 0 0] 52) := by rw [hw1]; exact heap_new _ _
  have hs1 : w1.heap.size = w.heap.size + 1 := by rw [hw1]; simp
  have hnn : n * n ≤ 65025 := Nat.mul_le_mul h2 h2
  have hz := mul_nat (r := n) (c := n) rfl
  have ho : Own ((w.alloc (Obj.cells #[.int .i64 0, .int .i64 0, .slice none 0 0] 52)).alloc (zrow (n * n))) (w.heap.size + 1) (flat n n (idTo 0)) := by
    have h5 := own_zrow (w.alloc (Obj.cells #[.int .i64 0, .int .i64 0, .slice none 0 0] 52)) (n * n)
    rw [World.size_alloc, flat_zero, flat_congr (fun i j _ _ => show 0 = idTo 0 i j from by unfold idTo; rw [if_neg (by omega)])] at h5
    exact h5
  have hr : ((w.alloc (Obj.cells #[.int .i64 0, .int .i64 0, .slice none 0 0] 52)).alloc (zrow (n * n))).heap[w.heap.size]? = some (Obj.cells #[.int .i64 0, .int .i64 0, .slice none 0 0] 52) := heap_alloc (heap_new _ _) _
  have hb : Below w.heap.size w ((w.alloc (Obj.cells #[.int .i64 0, .int .i64 0, .slice none 0 0] 52)).alloc (zrow (n * n))) := ((Below.refl _ _).alloc (Nat.le_refl _) _).alloc (by simp) _
  have HO := hid ho
  have HR := hid hr
  have HB := hid hb
  clear ho hr hb h0 hs1 hbel hw1
  generalize hnc : n * n = nc at *
  have HNC := hid hnc
  clear hnc
  have hmk := mk_u8 nc (by omega)
  go_enter Try.func57, Try.ntmps57
  go_wp2
  clear hmk
  go_loopw [5] (fun iv wr => ∃ i : Nat, i ≤ n ∧ iv = .int .i64 i ∧ Hid (Own wr (w.heap.size + 1) (flat n n (idTo i))) ∧ Hid (wr.heap[w.heap.size]? = some (Obj.cells #[.int .i64 0, .int .i64 0, .slice none 0 0] 52)) ∧ Hid (Below w.heap.size w wr)) (fun iv _ => n - (intOf iv).toNat)
  case atStart => exact ⟨0, by omega, rfl, HO, HR, HB⟩
  case round =>
    clear HO HR HB
    obtain ⟨i, hi, rfl, HO, HR, HB⟩ := hrel
    by_cases hlt : i < n
    · have co := HO.out.cell (i * n + i) (by rw [flat_length]; exact ix_lt hlt hlt)
      have fo := HO.out.free (i * n + i)
      have hst : Own (wr.setCell ⟨w.heap.size + 1, i * n + i, none⟩ (.int .u8 1)) (w.heap.size + 1) (flat n n (idTo (i + 1))) := by
        have h5 := HO.out.set (i * n + i) 1
        rw [flat_set _ hlt hlt, flat_congr (fun a b _ _ => idTo_step i a b)] at h5
        exact h5
      have HST := hid hst
      have HR2 := hid ((Below.heap_setCell wr ⟨w.heap.size + 1, i * n + i, none⟩ (.int .u8 1) _ (show w.heap.size ≠ w.heap.size + 1 by omega)).trans HR.out)
      have HB2 := hid (HB.out.setCell (p := ⟨w.heap.size + 1, i * n + i, none⟩) (by show w.heap.size ≤ w.heap.size + 1; omega) (.int .u8 1))
      have hle := ix_lt hlt hlt
      rw [HNC.out] at hle
      have m1 := mul_nat (r := i) (c := n) rfl
      clear hst HO HR HB
      generalize (flat n n (idTo i)).getD (i * n + i) 0 = z at *
      generalize i * n = q at *
      go_wp2
      exact ⟨⟨i + 1, by omega, by go_num, HST, HR2, HB2⟩, by simp [intOf]; omega⟩
    · obtain rfl : i = n := by omega
      obtain ⟨d0, d1, d2, f0, f1, f2⟩ := c3_of HR.out
      have hout := HO.out
      rw [flat_congr (fun a b ha _ => show idTo i a b = idM a b from by unfold idTo idM; by_cases e : a = b <;> simp [e]; omega)] at hout
      have h5 := (((hout.setCell (p := ⟨w.heap.size, 0, none⟩) (by show w.heap.size ≠ w.heap.size + 1; omega) (.int .i64 i)).setCell (p := ⟨w.heap.size, 1, none⟩) (by show w.heap.size ≠ w.heap.size + 1; omega) (.int .i64 i)).setCell (p := ⟨w.heap.size, 2, none⟩) (by show w.heap.size ≠ w.heap.size + 1; omega) (.slice (some ⟨w.heap.size + 1, 0, none⟩) nc nc)).bs (flat_lt idM_lt) nc
      rw [flat_length, HNC.out] at h5
      have H5 := hid h5
      clear h5 hout
      go_wp2
      refine bodyPost_ret (v := .tuple #[.agg #[.int .i64 i, .int .i64 i, .slice (some ⟨w.heap.size + 1, 0, none⟩) nc nc], .int .i64 0]) (by simp [results, Try.results57, go_sem, d0, d1, d2]) rfl ⟨⟨_, _, _, rfl, H5.out, fun ad h => by cases h; show w.heap.size ≤ w.heap.size + 1; omega⟩, ?_⟩
      exact ((HB.out.setCell (by simp) _).setCell (by simp) _).setCell (by simp) _
theorem Unit_bad (n : Int) (h : ¬ (1 ≤ n ∧ n ≤ 255)) (w : World) :
    Calls Try.prog 57 #[.int .i64 n] w fun e w' => MatRes w.heap.size 0 0 [] 2 e w' ∧ Below w.heap.size w w' := by
  by_cases h1 : n < 1
  · clear h
    go_enter Try.func57, Try.ntmps57
    go_wp2
    refine bodyPost_ret (v := .tuple #[.agg #[.int .i64 0, .int .i64 0, .slice none 0 0], .int .i64 2]) (by simp [results, Try.results57, go_sem]) rfl ⟨⟨none, 0, 0, rfl, bs_nil _, fun _ h => by cases h⟩, ?_⟩
    exact (Below.refl _ _).alloc (Nat.le_refl _) _
  · have h2 : 255 < n := by omega
    clear h
    go_enter Try.func57, Try.ntmps57
    go_wp2
    refine bodyPost_ret (v := .tuple #[.agg #[.int .i64 0, .int .i64 0, .slice none 0 0], .int .i64 2]) (by simp [results, Try.results57, go_sem]) rfl ⟨⟨none, 0, 0, rfl, bs_nil _, fun _ h => by cases h⟩, ?_⟩
    exact (Below.refl _ _).alloc (Nat.le_refl _) _

/-- what a loop that appends bytes to a row of its own keeps -/
structure ApInv (B : Nat) (L : List Nat) (w wr : World) (v : Value) (p : Nat) : Prop where
  own : wr.ownsRow (B + 1) 5 1 v p (u8s (L.take p))
  br : wr.heap[B]? = some (Obj.cells #[.int .i64 0, .int .i64 0, .slice none 0 0] 52)
  below : Below B w wr
  big : B + 1 ≤ wr.heap.size
theorem ApInv.step {B m : Nat} {L : List Nat} {w wr w2 w3 : World} {v v' : Value} {p : Nat} {news : List Nat} (h : ApInv B L w wr v p) (h1 : Below wr.heap.size wr w2) (h2 : w2.grownBy w3 v.ownBlock) (ho : w3.ownsRow (B + 1) 5 1 v' (p + m) (u8s (L.take p) ++ u8s news)) (hn : L.take p ++ news = L.take (p + m)) :
    ApInv B L w w3 v' (p + m) := by
  have hb := h.big
  have hs := h1.size
  have hne : ∀ g, v.ownBlock = some g → B + 1 ≤ g := fun g hg => by
    obtain ⟨_, h7⟩ := h.own
    rcases h7 with ⟨h8, _⟩ | ⟨g', cap, cur, h8, h9, _⟩
    · subst h8; cases hg
    · subst h8; simp [Value.ownBlock] at hg; omega
  refine ⟨?_, ?_, (h.below.trans (h1.mono (by omega))).grown h2 (by omega) (fun g hg => by have := hne g hg; omega), ?_⟩
  · have e : u8s (L.take p) ++ u8s news = u8s (L.take (p + m)) := by rw [← hn]; simp [u8s]
    rw [← e]
    exact ho
  · refine (h2.block _ (by omega) (fun e => ?_)).trans ((h1.block _ (by omega)).trans h.br)
    have := hne _ e.symm
    omega
  · have := h2.size
    omega
theorem ApInv.below' {B : Nat} {L : List Nat} {w wr w2 : World} {v : Value} {p : Nat} (h : ApInv B L w wr v p) (h1 : Below wr.heap.size wr w2) : ApInv B L w w2 v p :=
  ⟨owns_below h.own h1, (h1.block _ (lt_of_heap h.br)).trans h.br, h.below.trans (h1.mono (by have := h.big; omega)), Nat.le_trans h.big h1.size⟩
theorem Powers_lt (i j : Nat) (hi : i < 256) : vdM i j < 256 := Gf.pw_lt i hi j

set_option maxRecDepth 100000 in
set_option maxHeartbeats 2000000 in
theorem Powers_ok (R C : Nat) (h1 : 1 ≤ R) (h2 : R ≤ 255) (h3 : 1 ≤ C) (h4 : C ≤ 255) (w : World) :
    Calls Try.prog 62 #[.int .i64 R, .int .i64 C] w fun e w' => MatRes w.heap.size R C (flat R C fun r c => if r < R then vdM r c else 0) 0 e w' ∧ Below w.heap.size w w' := by
  obtain ⟨i0, hi0, hz0, hz1, hz2⟩ := info_parts info5
  have q1 : decide ((R : Int) < 1) = false := by simp; omega
  have q2 : decide ((255 : Int) < (R : Int)) = false := by simp; omega
  have q3 : decide ((C : Int) < 1) = false := by simp; omega
  have q4 : decide ((255 : Int) < (C : Int)) = false := by simp; omega
  have hRC : R * C ≤ 65025 := Nat.mul_le_mul h2 h4
  have hinv : ApInv w.heap.size (flat R C vdM) w ((w.alloc (Obj.cells #[.int .i64 0, .int .i64 0, .slice none 0 0] 52)).alloc (Obj.cells #[] 5)) (.slice (some ⟨w.heap.size + 1, 0, none⟩) 0 0) 0 := by
    refine ⟨⟨rfl, .inr ⟨w.heap.size + 1, 0, #[], rfl, Nat.le_refl _, ?_, Nat.le_refl _, Nat.zero_le _, rfl, rfl⟩⟩, heap_alloc (heap_new _ _) _, ((Below.refl _ _).alloc (Nat.le_refl _) _).alloc (by simp) _, by simp⟩
    have h5 := heap_new (w.alloc (Obj.cells #[.int .i64 0, .int .i64 0, .slice none 0 0] 52)) (Obj.cells #[] 5)
    rwa [World.size_alloc] at h5
  have HINV := hid hinv
  clear hinv
  go_enter Try.func62, Try.ntmps62
  go_wp2
  go_loopw [6, 7] (fun v iv wr => ∃ r : Nat, r ≤ R ∧ iv = .int .i64 r ∧ Hid (ApInv w.heap.size (flat R C vdM) w wr v (r * C))) (fun _ iv _ => R - (intOf iv).toNat)
  case atStart => exact ⟨0, by omega, rfl, by rw [Nat.zero_mul]; exact HINV⟩
  case round =>
    clear HINV
    obtain ⟨r, hr, rfl, HINV⟩ := hrel
    by_cases hlt : r < R
    · go_wp2
      go_loopw [6, 8, 9] (fun v pv jv wr => ∃ c : Nat, c ≤ C ∧ jv = .int .i64 c ∧ pv = .int .u8 (vdM r c : Nat) ∧ Hid (ApInv w.heap.size (flat R C vdM) w wr v (r * C + c))) (fun _ _ jv _ => C - (intOf jv).toNat)
      case atStart => exact ⟨0, by omega, rfl, rfl, by rw [Nat.add_zero]; exact HINV⟩
      case round =>
        clear HINV
        obtain ⟨c, hc, rfl, rfl, HINV⟩ := hrel
        have hpl := Powers_lt r c (by omega)
        by_cases hlt2 : c < C
        · have hL : (flat R C vdM).getD (r * C + c) 0 = vdM r c := flat_getD _ hlt hlt2
          have hp2 := ix_lt hlt hlt2
          have htk := take_snoc (flat R C vdM) (r * C + c) (by rw [flat_length]; exact hp2)
          rw [hL] at htk
          have HTK := hid htk
          have hst : vdM r (c + 1) = Gf.tm (vdM r c) r := rfl
          have HST := hid hst
          clear htk hL hst
          generalize vdM r c = x at *
          generalize hpp : r * C + c = pp at *
          have HPP := hid hpp
          clear hpp
          have hbig := HINV.out.big
          have hnsz : (wr.alloc (Obj.cells #[.int .u8 (x : Int)] 5)).heap.size = wr.heap.size + 1 := by simp
          go_wp2_with (refine wpList_append_own _ rfl (.tmp 36) (.tmp 38) _ rfl (w.heap.size + 1) 5 i0 (.int .u8 0) 1 1 Try.underlying27 hi0 hz0 hz1 hz2 rfl (by decide) _ pp (u8s ((flat R C vdM).take pp)) rfl (owns_below HINV.out.own ((Below.refl _ _).alloc (Nat.le_refl _) _)) ⟨wr.heap.size, 0, none⟩ 1 1 [.int .u8 (x : Int)] rfl rfl (cell_of_new _ _ _) (one_u8 x) (by unfold maxLen; omega) (by omega) (by omega) ?_)
          intro v' w5 hown5 hg5 _
          have HNX := hid (HINV.out.step ((Below.refl _ _).alloc (Nat.le_refl _) _) hg5 (news := [x]) hown5 HTK.out.symm)
          clear hown5 hg5 HINV
          go_wp2_with fail
          refine (Times_any x r hpl (by omega) _).mono ?_
          rintro e w' ⟨rfl, rfl⟩
          go_wp2
          exact ⟨⟨c + 1, by omega, by go_num, by rw [HST.out], by rw [← Nat.add_assoc, HPP.out]; exact HNX⟩, by simp [intOf]; omega⟩
        · obtain rfl : c = C := by omega
          have hnx : ApInv w.heap.size (flat R c vdM) w wr u6 ((r + 1) * c) := by rw [Nat.succ_mul]; exact HINV.out
          have HNX := hid hnx
          clear hnx HINV
          go_wp2
          exact ⟨⟨r + 1, by omega, by go_num, HNX⟩, by simp [intOf]; omega⟩
    · obtain rfl : r = R := by omega
      have hflat : flat r C vdM = flat r C fun r' c => if r' < r then vdM r' c else 0 := flat_congr fun a b ha _ => by rw [if_pos ha]
      have hLl : ∀ x ∈ flat r C vdM, x < 256 := fun x hx => by
        rw [hflat] at hx
        exact flat_lt (fun a b => by split; exact Powers_lt a b (by omega); omega) x hx
      obtain ⟨d0, d1, d2, f0, f1, f2⟩ := c3_of HINV.out.br
      obtain ⟨va, vc, rfl, hm1, hm2, hbs, hlow⟩ := bs_of_owns HINV.out.own (fun x hx => hLl x (List.mem_of_mem_take hx))
      rw [List.take_of_length_le (by rw [flat_length]; exact Nat.le_refl _), hflat] at hbs
      have HOFF := hid (off_low (n := r * C) (c := vc) (fun ad h => (hlow ad h).1) (show w.heap.size < w.heap.size + 1 by omega))
      have HBS := hid hbs
      have HLOW := hid hlow
      have HBL := hid HINV.out.below
      clear HINV hbs hlow hm1 hm2 hflat hLl hRC
      generalize r * C = nc at *
      go_wp2
      refine bodyPost_ret (v := .tuple #[.agg #[.int .i64 r, .int .i64 C, .slice va nc vc], .int .i64 0]) (by simp [results, Try.results62, go_sem, d0, d1, d2]) rfl ⟨⟨va, nc, vc, rfl, ((HBS.out.set_off HOFF.out _ _).set_off HOFF.out _ _).set_off HOFF.out _ _, fun ad h => by have := (HLOW.out ad h).1; omega⟩, ?_⟩
      exact ((HBL.out.setCell (by simp) _).setCell (by simp) _).setCell (by simp) _
end Go.Proofs.Ytndkcabmaigneaa
