/-
  The walk of the law that all pieces are those of the reference.
-/
import Derived.Test.YtbajekiliplclaaSame
import Derived.Test.YtbajekiliplclaaLawS
namespace Go.Proofs.Ytbajekiliplclaa
open Go.RowKit
set_option linter.unusedVariables false

theorem rsplit_bad (k t : Int) (h : ¬ (1 ≤ k ∧ k ≤ t ∧ t ≤ 255)) (a : Option Addr) (n c : Nat) (w : World) :
    Calls Try.prog 32 #[.int .i64 k, .int .i64 t, .slice a n c] w fun e w' => e = .returned (.tuple #[.slice none 0 0, .int .i64 2]) ∧ w = w' := by
  have hnot : ∀ (x : Bool) (w : World), (Op.unary .not (.bool x)).run Try.prog w = .ok (.bool (!x)) w := fun _ _ => rfl
  have H := hid h
  clear h
  go_enter Try.func32, Try.ntmps32
  go_wp2_with (refine (rsizes_no k t H.out _).mono ?_; rintro e w' ⟨rfl, rfl⟩)
  go_ret2
  exact ⟨rfl, rfl⟩
theorem rsplit_long (k t : Int) (h1 : 1 ≤ k) (h2 : k ≤ t) (h3 : t ≤ 255) (a : Option Addr) (n c : Nat) (hn : 8192 < n) (w : World) :
    Calls Try.prog 32 #[.int .i64 k, .int .i64 t, .slice a n c] w fun e w' => e = .returned (.tuple #[.slice none 0 0, .int .i64 3]) ∧ w = w' := by
  have hnot : ∀ (x : Bool) (w : World), (Op.unary .not (.bool x)).run Try.prog w = .ok (.bool (!x)) w := fun _ _ => rfl
  go_enter Try.func32, Try.ntmps32
  go_wp2_with (refine (rsizes_yes k t h1 h2 h3 _).mono ?_; rintro e w' ⟨rfl, rfl⟩)
  go_ret2
  exact ⟨rfl, rfl⟩
theorem ps_nil (w : World) : Ps w (.slice none 0 0) [] := ⟨none, 0, rfl, fun h => absurd rfl h⟩
theorem RSInv.ps {B L k t : Nat} {bf : Nat → Nat} {d : List Nat} {w wr : World} {v : Value} (h : RSInv B L k bf d w wr v t) (ht : 1 ≤ t) : ∃ g c, v = .slice (some ⟨g, 0, none⟩) t c ∧ B ≤ g ∧ Ps wr (.slice (some ⟨g, 0, none⟩) t c) (mkps bf L t t) := by
  have h0 := h.own
  obtain ⟨_, h2⟩ := h.own
  rcases h2 with ⟨_, h3⟩ | ⟨g, cap, cur, rfl, hg, _⟩
  · omega
  · refine ⟨g, cap, rfl, hg, ?_⟩
    have h4 := ps_of_owns (c := cap) h0 (show t ≤ (mkps bf L t t).length by rw [mkps_length]; exact Nat.le_refl _)
    rwa [List.take_of_length_le (by rw [mkps_length]; exact Nat.le_refl _)] at h4
theorem row_bs {w : World} {b : Nat} {d : List Nat} {k L i : Nat} (hd : ∀ i, d.getD i 0 < 256) (h : Own w b (encP d k L i)) : Bs w (.slice (some ⟨b, 0, none⟩) L L) (encP d k L i) := by
  have h5 := h.bs (encP_lt d hd k L i) L
  rwa [encP_length] at h5

set_option maxRecDepth 100000 in
set_option maxHeartbeats 1000000 in
theorem encodes_in (W : World) (k t : Nat) (h1 : 1 ≤ k) (h2 : k ≤ t) (h3 : t ≤ 60) (a : Option Addr) (n c : Nat) (d : List Nat) (hd : Bs W (.slice a n c) d) (hn : n ≤ 8192) (hnil : a = none → c = 0) :
    Calls Try.prog 4 #[.int .i64 k, .int .i64 t, .slice a n c] W fun e w' => e = .returned (.bool true) ∧ Below W.heap.size W w' := by
  have b3 : decide ((60 : Int) < (t : Int)) = false := by simp; omega
  have b4 : decide ((10000 : Int) < (n : Int)) = false := by simp; omega
  go_enter Try.func4, Try.ntmps4
  go_wp2_with (refine wpList_clone rfl (.tmp 25) (.tmp 26) rfl W.heap.size rfl (heap_new W _) a n c d rfl (hd.alloc _) hnil (by omega) ?_)
  intro a' c' w1 hd1 hnc1 hlow1 hnil1 hk1
  go_wp2_with fail
  refine (newField_any _).mono ?_
  rintro e w2 ⟨rfl, hfr, hb2⟩
  have hW1 : Below W.heap.size W w1 := ((Below.refl _ _).alloc (Nat.le_refl _) _).trans (hk1.below (by simp) (Nat.le_refl _))
  have hd2 := hd1.below hb2
  have hoff : Off w1.heap.size (.slice a' n c') := by
    cases a' with
    | none => trivial
    | some ad => show ad.block ≠ w1.heap.size; have := hlow1 ad rfl; omega
  go_wp2_with fail
  refine (Encode_any w1.heap.size k t a' n c' d _ (.inl hfr) hd2 hoff hnc1 h1 h2 (by omega) hn).mono ?_
  rintro e w3 ⟨g, bf, hg, rfl, hp, hB3, hk3⟩
  go_wp2_with fail
  have hW3 : Below W.heap.size W w3 := hW1.trans ((hb2.trans (hk3.below hb2.size (Nat.le_refl _))).mono hW1.size)
  have hd3 := hd2.kept hk3 hoff
  have hdW := hd.below hW3
  refine (rsplit_any k t a n c d _ hdW h1 h2 (by omega) hn).mono ?_
  rintro e w4 ⟨v, bf', rfl, hinv⟩
  obtain ⟨g', cv, rfl, hg', hps'⟩ := hinv.ps (by omega)
  have hb4 : Below w3.heap.size w3 w4 := hinv.below
  have hd4 := hd3.below hb4
  have hdw4 := hdW.below hb4
  have hdl : ∀ i, d.getD i 0 < 256 := hd.lt
  have hsame : ∀ W', Below w4.heap.size w4 W' → Calls Try.prog 33 #[.slice (some ⟨g, 0, none⟩) t t, .slice (some ⟨g', 0, none⟩) t cv] W' fun e w' => e = .returned (.bool true) ∧ Below W'.heap.size W' w' := fun W' hW' => by
    have hps := (hp.own.below hb4 hp.own.lt).ps t t (by rw [mkps_length])
    refine same_yes _ _ t t cv (mkps bf (plen k n) t t) (mkps bf' (plen k n) t t) (fun i => encP d k (plen k n) i) W' (hps.below hW') (hps'.below hW') (by omega) ?_ ?_ ?_
    · intro i h h'
      have hi : i < t := by rwa [mkps_length] at h
      rw [mkps_get _ _ _ _ _ h hi, mkps_get _ _ _ _ _ h' hi]
    · intro i h
      have hi : i < t := by rwa [mkps_length] at h
      rw [mkps_get _ _ _ _ _ h hi]
      have h6 := hp.row i hi
      have h7 := h6.below hb4 h6.lt
      exact row_bs hdl (h7.below hW' h7.lt)
    · intro i h
      have hi : i < t := by rwa [mkps_length] at h
      rw [mkps_get _ _ _ _ _ h hi]
      have h6 := hinv.rows i hi
      exact row_bs hdl (h6.below hW' h6.lt)
  have HSAME := hid hsame
  have HD4 := hid hd4
  have HDW4 := hid hdw4
  have hb43 := hb4.size
  have HB4 := hid hb4
  clear hsame hd4 hdw4 hinv hp hps' hd3 hdW hd1 hd2 hB3 hk3 hk1 hlow1 hnil1 hb2 hfr hoff hb4 hg hg' hnc1 hdl
  generalize plen k n = L at *
  go_wp2_with fail
  refine (HSAME.out _ (Below.refl _ _)).mono ?_
  rintro e0 w5 ⟨rfl, hb5⟩
  have cv1 := conv_bs (HD4.out.below hb5)
  have cv2 := conv_bs (HDW4.out.below hb5)
  go_wp2_with fail
  refine (known_any _).mono ?_
  rintro e0 w6 ⟨rfl, hb6⟩
  go_wp2
  go_ret
  exact ⟨rfl, hW3.trans ((HB4.out.trans ((hb5.trans (hb6.mono hb5.size)).mono hb43)).mono hW3.size)⟩

theorem encodes_err (W : World) (k t : Int) (x : Int) (a : Option Addr) (n c : Nat) (d : List Nat) (hd : Bs W (.slice a n c) d) (hn : n ≤ 10000) (hnil : a = none → c = 0)
    (hS : 60 < t → ∀ w, Calls Try.prog 29 #[.int .i64 k, .int .i64 t] w fun e w' => e = .returned (.bool false) ∧ w = w')
    (hE : ∀ fb a' c' w, Calls Try.prog 31 #[.pointer (some ⟨fb, 0, none⟩), .int .i64 k, .int .i64 t, .slice a' n c'] w fun e w' => e = .returned (.tuple #[.slice none 0 0, .int .i64 x]) ∧ w = w')
    (hR : ∀ w, Calls Try.prog 32 #[.int .i64 k, .int .i64 t, .slice a n c] w fun e w' => e = .returned (.tuple #[.slice none 0 0, .int .i64 x]) ∧ w = w') :
    Calls Try.prog 4 #[.int .i64 k, .int .i64 t, .slice a n c] W fun e w' => e = .returned (.bool true) ∧ Below W.heap.size W w' := by
  have b4 : decide ((10000 : Int) < (n : Int)) = false := by simp; omega
  by_cases h60 : 60 < t
  · have hs := hS h60
    clear hS
    go_enter Try.func4, Try.ntmps4
    go_wp2_with fail
    refine (hs _).mono ?_
    rintro e w' ⟨rfl, rfl⟩
    go_wp2_with (refine wpList_clone rfl (.tmp 25) (.tmp 26) rfl W.heap.size rfl (heap_new W _) a n c d rfl (hd.alloc _) hnil (by omega) ?_)
    intro a' c' w1 hd1 hnc1 hlow1 hnil1 hk1
    clear hnc1 hlow1 hnil1
    go_wp2_with fail
    refine (newField_any _).mono ?_
    rintro e w2 ⟨rfl, hfr, hb2⟩
    have hW1 : Below W.heap.size W w1 := ((Below.refl _ _).alloc (Nat.le_refl _) _).trans (hk1.below (by simp) (Nat.le_refl _))
    have hd2 := hd1.below hb2
    have hdw2 := (hd.below hW1).below hb2
    go_wp2_with fail
    refine (hE w1.heap.size a' c' _).mono ?_
    rintro e w' ⟨rfl, rfl⟩
    go_wp2_with fail
    refine (hR _).mono ?_
    rintro e w' ⟨rfl, rfl⟩
    clear hk1 hfr
    go_wp2_with fail
    refine (same_yes none none 0 0 0 [] [] (fun _ => []) _ (ps_nil _) (ps_nil _) (by omega) (fun i h => absurd h (Nat.not_lt_zero _)) (fun i h => absurd h (Nat.not_lt_zero _)) (fun i h => absurd h (Nat.not_lt_zero _))).mono ?_
    rintro e0 w5 ⟨rfl, hb5⟩
    have cv1 := conv_bs (hd2.below hb5)
    have cv2 := conv_bs (hdw2.below hb5)
    go_wp2_with fail
    refine (known_any _).mono ?_
    rintro e0 w6 ⟨rfl, hb6⟩
    go_wp2
    go_ret
    exact ⟨rfl, hW1.trans ((hb2.trans ((hb5.trans (hb6.mono hb5.size)).mono hb2.size)).mono hW1.size)⟩
  · clear hS
    go_enter Try.func4, Try.ntmps4
    go_wp2_with (refine wpList_clone rfl (.tmp 25) (.tmp 26) rfl W.heap.size rfl (heap_new W _) a n c d rfl (hd.alloc _) hnil (by omega) ?_)
    intro a' c' w1 hd1 hnc1 hlow1 hnil1 hk1
    clear hnc1 hlow1 hnil1
    go_wp2_with fail
    refine (newField_any _).mono ?_
    rintro e w2 ⟨rfl, hfr, hb2⟩
    have hW1 : Below W.heap.size W w1 := ((Below.refl _ _).alloc (Nat.le_refl _) _).trans (hk1.below (by simp) (Nat.le_refl _))
    have hd2 := hd1.below hb2
    have hdw2 := (hd.below hW1).below hb2
    go_wp2_with fail
    refine (hE w1.heap.size a' c' _).mono ?_
    rintro e w' ⟨rfl, rfl⟩
    go_wp2_with fail
    refine (hR _).mono ?_
    rintro e w' ⟨rfl, rfl⟩
    clear hk1 hfr
    go_wp2_with fail
    refine (same_yes none none 0 0 0 [] [] (fun _ => []) _ (ps_nil _) (ps_nil _) (by omega) (fun i h => absurd h (Nat.not_lt_zero _)) (fun i h => absurd h (Nat.not_lt_zero _)) (fun i h => absurd h (Nat.not_lt_zero _))).mono ?_
    rintro e0 w5 ⟨rfl, hb5⟩
    have cv1 := conv_bs (hd2.below hb5)
    have cv2 := conv_bs (hdw2.below hb5)
    go_wp2_with fail
    refine (known_any _).mono ?_
    rintro e0 w6 ⟨rfl, hb6⟩
    go_wp2
    go_ret
    exact ⟨rfl, hW1.trans ((hb2.trans ((hb5.trans (hb6.mono hb5.size)).mono hb2.size)).mono hW1.size)⟩

theorem encodes_walk (W : World) (k : Int) (_hk : (Lit.int .i64 k).wf = true) (t : Int) (_ht : (Lit.int .i64 t).wf = true) (a : Option Addr) (n c : Nat) (d : List Nat) (hd : Bs W (.slice a n c) d) (_hc : n ≤ c) (hnil : a = none → c = 0) :
    Calls Try.prog 4 #[.int .i64 k, .int .i64 t, .slice a n c] W fun e w' => e = .returned (.bool true) ∧ Below W.heap.size W w' := by
  by_cases h4 : 10000 < n
  · by_cases h3 : 60 < t
    · by_cases hs : 1 ≤ k ∧ k ≤ t ∧ t ≤ 255
      · have HS := hid (fun w => rsizes_yes k t hs.1 hs.2.1 hs.2.2 w)
        clear hs
        go_enter Try.func4, Try.ntmps4
        go_wp2_with fail
        refine (HS.out _).mono ?_
        rintro e w' ⟨rfl, rfl⟩
        go_wp2_with fail
        refine (known_any _).mono ?_
        rintro e w1 ⟨rfl, hb⟩
        go_wp2
        go_ret
        exact ⟨rfl, hb⟩
      · have HS := hid (fun w => rsizes_no k t hs w)
        clear hs
        go_enter Try.func4, Try.ntmps4
        go_wp2_with fail
        refine (HS.out _).mono ?_
        rintro e w' ⟨rfl, rfl⟩
        go_wp2_with fail
        refine (known_any _).mono ?_
        rintro e w1 ⟨rfl, hb⟩
        go_wp2
        go_ret
        exact ⟨rfl, hb⟩
    · go_enter Try.func4, Try.ntmps4
      go_wp2_with fail
      refine (known_any _).mono ?_
      rintro e w1 ⟨rfl, hb⟩
      go_wp2
      go_ret
      exact ⟨rfl, hb⟩
  by_cases hs : 1 ≤ k ∧ k ≤ t ∧ t ≤ 255
  · by_cases h3 : 60 < t
    · have HS := hid (fun w => rsizes_yes k t hs.1 hs.2.1 hs.2.2 w)
      clear hs
      go_enter Try.func4, Try.ntmps4
      go_wp2_with fail
      refine (HS.out _).mono ?_
      rintro e w' ⟨rfl, rfl⟩
      go_wp2_with fail
      refine (known_any _).mono ?_
      rintro e w1 ⟨rfl, hb⟩
      go_wp2
      go_ret
      exact ⟨rfl, hb⟩
    · by_cases h5 : 8192 < n
      · exact encodes_err W k t 3 a n c d hd (by omega) hnil (fun h => absurd h h3) (fun fb a' c' w => Encode_long fb k t a' n c' hs.1 hs.2.1 hs.2.2 h5 w) (fun w => rsplit_long k t hs.1 hs.2.1 hs.2.2 a n c h5 w)
      · obtain ⟨k, rfl⟩ : ∃ m : Nat, k = m := ⟨k.toNat, by omega⟩
        obtain ⟨t, rfl⟩ : ∃ m : Nat, t = m := ⟨t.toNat, by omega⟩
        exact encodes_in W k t (by omega) (by omega) (by omega) a n c d hd (by omega) hnil
  · exact encodes_err W k t 2 a n c d hd (by omega) hnil (fun _ w => rsizes_no k t hs w) (fun fb a' c' w => Encode_nilsize fb k t a' n c' hs w) (fun w => rsplit_bad k t hs a n c w)
end Go.Proofs.Ytbajekiliplclaa
