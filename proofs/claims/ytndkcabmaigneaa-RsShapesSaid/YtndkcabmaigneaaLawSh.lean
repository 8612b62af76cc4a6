/-
  Basis; the walk of the law about valid matrices, identities, Vandermonde and generator matrices.
-/
import Derived.Test.YtndkcabmaigneaaShR
namespace Go.Proofs.Ytndkcabmaigneaa
open Go Go.RowKit
set_option linter.unusedVariables false

theorem wts_row (k i : Nat) : wts (List.range k) (scales (List.range k)) i = rowL k (genM k) i := by
  refine ext_getD (by rw [wts_length, List.length_range, rowL_length]) fun j hj => ?_
  rw [wts_length, List.length_range] at hj
  rw [rowL_getD _ _ hj]
  rfl
theorem take_row {R C : Nat} (M : Nat → Nat → Nat) {r : Nat} (hr : r < R) : (flat R C M).take (r * C) ++ rowL C M r = (flat R C M).take (r * C + C) := by
  rw [List.take_add, rowL_flat M hr]

set_option maxRecDepth 100000 in
set_option maxHeartbeats 2000000 in
theorem Basis_ok (R k : Nat) (h1 : 1 ≤ k) (h2 : k ≤ R) (h3 : R ≤ 255) (w : World) :
    Calls Try.prog 63 #[.int .i64 k, .int .i64 R] w fun e w' => MatRes w.heap.size R k (flat R k (genM k)) 0 e w' ∧ Below w.heap.size w w' := by
  have hnot : ∀ (x : Bool) (w : World), (Op.unary .not (.bool x)).run Try.prog w = .ok (.bool (!x)) w := fun _ _ => rfl
  obtain ⟨i0, hi0, hz0, hz1, hz2⟩ := info_parts info5
  have hRC : R * k ≤ 65025 := Nat.mul_le_mul h3 (show k ≤ 255 by omega)
  have hinv : ApInv w.heap.size (flat R k (genM k)) w ((w.alloc (Obj.cells #[.int .i64 0, .int .i64 0, .slice none 0 0] 52)).alloc (Obj.cells #[] 5)) (.slice (some ⟨w.heap.size + 1, 0, none⟩) 0 0) 0 := by
    refine ⟨⟨rfl, .inr ⟨w.heap.size + 1, 0, #[], rfl, Nat.le_refl _, ?_, Nat.le_refl _, Nat.zero_le _, rfl, rfl⟩⟩, heap_alloc (heap_new _ _) _, ((Below.refl _ _).alloc (Nat.le_refl _) _).alloc (by simp) _, by simp⟩
    have h5 := heap_new (w.alloc (Obj.cells #[.int .i64 0, .int .i64 0, .slice none 0 0] 52)) (Obj.cells #[] 5)
    rwa [World.size_alloc] at h5
  have HINV := hid hinv
  clear hinv
  go_enter Try.func63, Try.ntmps63
  go_wp2_with fail
  refine (rsizes_yes k R (by omega) (by omega) (by omega) _).mono ?_
  rintro e w' ⟨rfl, rfl⟩
  go_wp2_with fail
  go_loopw [6, 7] (fun v iv wr => ∃ r : Nat, r ≤ R ∧ iv = .int .i64 r ∧ Hid (ApInv w.heap.size (flat R k (genM k)) w wr v (r * k))) (fun _ iv _ => R - (intOf iv).toNat)
  case atStart => exact ⟨0, by omega, rfl, by rw [Nat.zero_mul]; exact HINV⟩
  case round =>
    clear HINV
    obtain ⟨r, hr, rfl, HINV⟩ := hrel
    by_cases hlt : r < R
    · have HTK := hid (take_row (genM k) (C := k) hlt)
      have hle := ix_le (C := k) hlt
      have hbig := HINV.out.big
      go_wp2_with fail
      refine (first_any k (by omega) _).mono ?_
      rintro e w5 ⟨fa, fc, rfl, hfb, hb5⟩
      go_wp2_with fail
      refine (rweights_any fa k fc (List.range k) r (by omega) _ hfb (by omega) List.nodup_range).mono ?_
      rintro e w6 ⟨ob, hob, rfl, how, hb6⟩
      have hb56 := known_end hb5 hb6
      have hs56 := hb56.size
      rw [wts_row] at how
      have hnews : ∀ (j : Nat) (u : Value), (u8s (rowL k (genM k) r))[j]? = some u → w6.cell? ((⟨ob, 0, none⟩ : Addr).add j) = some u := fun j u hj => by
        have hjl : j < (rowL k (genM k) r).length := by have := (List.getElem?_eq_some_iff.1 hj).1; simpa [u8s] using this
        rw [add_none, Nat.zero_add, how.cell j hjl, ← hj]
        simp [u8s, List.getElem?_eq_getElem hjl]
      have HNEWS := hid hnews
      have hown := owns_below HINV.out.own hb56
      have HOWN := hid hown
      have HB56 := hid hb56
      have hnl : (u8s (rowL k (genM k) r)).length = k * 1 := by simp [u8s, rowL_length]
      have HNL := hid hnl
      clear hnews hown hb56 hb5 hb6 hfb how hnl
      generalize hpp : r * k = pp at *
      have HPP := hid hpp
      clear hpp
      go_wp2_with (refine wpList_append_own _ rfl (.tmp 19) (.tmp 24) _ rfl (w.heap.size + 1) 5 i0 (.int .u8 0) 1 1 Try.underlying27 hi0 hz0 hz1 hz2 rfl (by decide) _ pp (u8s ((flat R k (genM k)).take pp)) rfl HOWN.out ⟨ob, 0, none⟩ k k (u8s (rowL k (genM k) r)) rfl HNL.out HNEWS.out (u8s_one _) (by unfold maxLen; omega) (by omega) (by omega) ?_)
      intro v' w7 hown7 hg7 _
      have HNX := hid (HINV.out.step HB56.out hg7 (m := k) (news := rowL k (genM k) r) hown7 HTK.out)
      clear hown7 hg7 HINV HOWN HNEWS HNL HB56
      go_wp2
      exact ⟨⟨r + 1, by omega, by go_num, by rw [Nat.succ_mul, HPP.out]; exact HNX⟩, by simp [intOf]; omega⟩
    · obtain rfl : r = R := by omega
      obtain ⟨d0, d1, d2, f0, f1, f2⟩ := c3_of HINV.out.br
      obtain ⟨va, vc, rfl, hm1, hm2, hbs, hlow⟩ := bs_of_owns HINV.out.own (fun x hx => flat_lt (genM_lt k) x (List.mem_of_mem_take hx))
      rw [List.take_of_length_le (by rw [flat_length]; exact Nat.le_refl _)] at hbs
      have HOFF := hid (off_low (n := r * k) (c := vc) (fun ad h => (hlow ad h).1) (show w.heap.size < w.heap.size + 1 by omega))
      have HBS := hid hbs
      have HLOW := hid hlow
      have HBL := hid HINV.out.below
      clear HINV hbs hlow hm1 hm2 hRC
      generalize r * k = nc at *
      go_wp2
      refine bodyPost_ret (v := .tuple #[.agg #[.int .i64 r, .int .i64 k, .slice va nc vc], .int .i64 0]) (by simp [results, Try.results63, go_sem, d0, d1, d2]) rfl ⟨⟨va, nc, vc, rfl, ((HBS.out.set_off HOFF.out _ _).set_off HOFF.out _ _).set_off HOFF.out _ _, fun ad h => by have := (HLOW.out ad h).1; omega⟩, ?_⟩
      exact ((HBL.out.setCell (by simp) _).setCell (by simp) _).setCell (by simp) _
theorem Basis_bad (k t : Int) (h : ¬ (1 ≤ k ∧ k ≤ t ∧ t ≤ 255)) (w : World) :
    Calls Try.prog 63 #[.int .i64 k, .int .i64 t] w fun e w' => MatRes w.heap.size 0 0 [] 2 e w' ∧ Below w.heap.size w w' := by
  have hnot : ∀ (x : Bool) (w : World), (Op.unary .not (.bool x)).run Try.prog w = .ok (.bool (!x)) w := fun _ _ => rfl
  have H := hid h
  clear h
  go_enter Try.func63, Try.ntmps63
  go_wp2_with fail
  refine (rsizes_no k t H.out _).mono ?_
  rintro e w' ⟨rfl, rfl⟩
  go_wp2
  refine bodyPost_ret (v := .tuple #[.agg #[.int .i64 0, .int .i64 0, .slice none 0 0], .int .i64 2]) (by simp [results, Try.results63, go_sem]) rfl ⟨⟨none, 0, 0, rfl, bs_nil _, fun _ h => by cases h⟩, ?_⟩
  exact (Below.refl _ _).alloc (Nat.le_refl _) _
theorem Powers_bad (r c : Int) (h : ¬ (1 ≤ r ∧ r ≤ 255 ∧ 1 ≤ c ∧ c ≤ 255)) (w : World) :
    Calls Try.prog 62 #[.int .i64 r, .int .i64 c] w fun e w' => MatRes w.heap.size 0 0 [] 2 e w' ∧ Below w.heap.size w w' := by
  by_cases h1 : r < 1
  · clear h
    go_enter Try.func62, Try.ntmps62
    go_wp2
    refine bodyPost_ret (v := .tuple #[.agg #[.int .i64 0, .int .i64 0, .slice none 0 0], .int .i64 2]) (by simp [results, Try.results62, go_sem]) rfl ⟨⟨none, 0, 0, rfl, bs_nil _, fun _ h => by cases h⟩, ?_⟩
    exact (Below.refl _ _).alloc (Nat.le_refl _) _
  · by_cases h2 : 255 < r
    · clear h
      go_enter Try.func62, Try.ntmps62
      go_wp2
      refine bodyPost_ret (v := .tuple #[.agg #[.int .i64 0, .int .i64 0, .slice none 0 0], .int .i64 2]) (by simp [results, Try.results62, go_sem]) rfl ⟨⟨none, 0, 0, rfl, bs_nil _, fun _ h => by cases h⟩, ?_⟩
      exact (Below.refl _ _).alloc (Nat.le_refl _) _
    · by_cases h3 : c < 1
      · clear h
        go_enter Try.func62, Try.ntmps62
        go_wp2
        refine bodyPost_ret (v := .tuple #[.agg #[.int .i64 0, .int .i64 0, .slice none 0 0], .int .i64 2]) (by simp [results, Try.results62, go_sem]) rfl ⟨⟨none, 0, 0, rfl, bs_nil _, fun _ h => by cases h⟩, ?_⟩
        exact (Below.refl _ _).alloc (Nat.le_refl _) _
      · have h4 : 255 < c := by omega
        clear h
        go_enter Try.func62, Try.ntmps62
        go_wp2
        refine bodyPost_ret (v := .tuple #[.agg #[.int .i64 0, .int .i64 0, .slice none 0 0], .int .i64 2]) (by simp [results, Try.results62, go_sem]) rfl ⟨⟨none, 0, 0, rfl, bs_nil _, fun _ h => by cases h⟩, ?_⟩
        exact (Below.refl _ _).alloc (Nat.le_refl _) _
end Go.Proofs.Ytndkcabmaigneaa
