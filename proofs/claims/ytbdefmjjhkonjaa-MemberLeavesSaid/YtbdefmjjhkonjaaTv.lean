/-
  Which tables are valid: Valid and the reference's.
-/
import Derived.Test.YtbdefmjjhkonjaaEb
import Derived.IntWalk
namespace Go.Proofs.Ytbdefmjjhkonjaa
open Go Go.RowKit
set_option linter.unusedVariables false

def okE (e : Ent) : Bool := decide (e.2 ≤ 4) && ((e.1 == 0) == (e.2 == 0))
def vld (L : List Ent) : Bool := L.all okE && (decide (1 ≤ L.length) && decide (L.length ≤ 16))
theorem take_up (L : List Ent) (i : Nat) (hi : i < L.length) : L.take (i + 1) = L.take i ++ [gd L i] := by
  unfold gd
  rw [List.take_add_one, List.getD_eq_getElem?_getD, List.getElem?_eq_getElem hi]; rfl
theorem all_up {L : List Ent} {i : Nat} (hi : i < L.length) (h : (L.take i).all okE = true) (h2 : okE (gd L i) = true) : (L.take (i + 1)).all okE = true := by
  rw [take_up L i hi, List.all_append, h]; simp [h2]
theorem all_bad {L : List Ent} {i : Nat} (hi : i < L.length) (h2 : okE (gd L i) = false) : L.all okE = false := by
  have : gd L i ∈ L := by
    unfold gd
    rw [List.getD_eq_getElem?_getD, List.getElem?_eq_getElem hi]
    exact List.getElem_mem hi
  rw [Bool.eq_false_iff]
  intro h
  have := List.all_eq_true.1 h _ this
  rw [h2] at this
  cases this

theorem vld_end {L : List Ent} {n : Nat} (hn : n = L.length) (h : (L.take n).all okE = true) (h1 : 1 ≤ n) (h2 : n ≤ 16) : vld L = true := by
  subst hn
  rw [List.take_length] at h
  simp [vld, h, h1, h2]
theorem vld_size {L : List Ent} {n : Nat} (hn : n = L.length) (h : ¬ (1 ≤ n ∧ n ≤ 16)) : vld L = false := by
  subst hn
  unfold vld
  rw [Bool.and_eq_false_iff]
  right
  rw [Bool.and_eq_false_iff]
  by_cases h1 : 1 ≤ L.length
  · right; exact decide_eq_false (by omega)
  · left; exact decide_eq_false (by omega)
theorem vld_bad {L : List Ent} {i : Nat} (hi : i < L.length) (h2 : okE (gd L i) = false) : vld L = false := by
  unfold vld
  rw [all_bad hi h2]; rfl

set_option maxRecDepth 100000 in
set_option maxHeartbeats 1000000 in
theorem Valid_any (a : Option Addr) (n c : Nat) (L : List Ent) (w : World) (ht : Tb w (.slice a n c) L) (hn : n ≤ 8796093022208) :
    Calls Try.prog 22 #[.slice a n c] w fun e w' => e = .returned (.bool (vld L)) ∧ Below w.heap.size w w' := by
  have HN := hid ht.len
  have HT := hid ht
  clear ht
  go_enter Try.func22, Try.ntmps22
  go_wp2
  go_loopw [7] (fun iv wr => ∃ i : Nat, i ≤ n ∧ iv = .int .i64 i ∧ Hid ((L.take i).all okE = true) ∧ Hid (Below w.heap.size w wr)) (fun iv _ => n - (intOf iv).toNat)
  case atStart => exact ⟨0, by omega, rfl, rfl, hid (Below.refl _ _)⟩
  case round =>
    obtain ⟨i, hi, rfl, HO, HB⟩ := hrel
    by_cases hlt : i < n
    · obtain ⟨b, o, rfl, hb⟩ := HT.out.addr (by omega)
      obtain ⟨q0, q1⟩ := (HT.out.below HB.out).cells i hlt
      obtain ⟨x, hx⟩ : ∃ x, x = (gd L i).1 := ⟨_, rfl⟩
      obtain ⟨s, hs⟩ : ∃ x, x = (gd L i).2 := ⟨_, rfl⟩
      rw [← hx] at q0
      rw [← hs] at q1
      have HG := hid (show gd L i = (x, s) by rw [hx, hs])
      clear hx hs
      have hsz := HB.out.size
      have hblt : b < wr.heap.size := by omega
      by_cases hok : okE (x, s) = true
      · have HO2 := hid (all_up (by rw [← HN.out]; exact hlt) HO.out (by rw [HG.out]; exact hok))
        have e1 : decide (4 < s) = false := by simp [okE] at hok; simp; omega
        have e2 : (x == 0) = (s == 0) := by simp [okE] at hok; simpa using hok.2
        clear hok
        go_wp2
        exact ⟨⟨i + 1, by omega, by go_num, HO2, hid (HB.out.alloc hsz _)⟩, by simp [intOf]; omega⟩
      · have HV := hid (vld_bad (L := L) (i := i) (by rw [← HN.out]; exact hlt) (by rw [HG.out]; simpa using hok))
        by_cases h4 : s ≤ 4
        · have e1 : decide (4 < s) = false := by simp; omega
          have e2 : (!(x == 0) == (s == 0)) = true := by cases hx : (x == 0) <;> cases hs : (s == 0) <;> simp [okE, h4, hx, hs] at hok ⊢
          clear hok h4
          go_wp2
          go_ret
          exact ⟨ret_b HV.out.symm, HB.out.alloc hsz _⟩
        · have e1 : decide (4 < s) = true := by simp; omega
          clear hok h4
          go_wp2
          go_ret
          exact ⟨ret_b HV.out.symm, HB.out.alloc hsz _⟩
    · obtain rfl : i = n := by omega
      by_cases hs : 1 ≤ i ∧ i ≤ 16
      · have HV := hid (vld_end HN.out HO.out hs.1 hs.2)
        obtain ⟨h1, h2⟩ := hs
        go_wp2
        go_ret
        exact ⟨ret_b (by rw [HV.out]; exact decide_eq_true (by omega)), HB.out⟩
      · have HV := hid (vld_size HN.out hs)
        by_cases h1 : 1 ≤ i
        · have h2 : 16 < i := by omega
          clear hs
          go_wp2
          go_ret
          exact ⟨ret_b (by rw [HV.out]; exact decide_eq_false (by omega)), HB.out⟩
        · have h2 : i = 0 := by omega
          subst h2
          clear hs
          go_wp2
          go_ret
          exact ⟨ret_b HV.out.symm, HB.out⟩

theorem good_any (x s : Int) (w : World) : Calls Try.prog 60 #[.agg #[.int .u64 x, .int .u8 s]] w fun e w' => e = .returned (.bool (okE (x, s))) ∧ Below w.heap.size w w' := by
  by_cases h4 : s ≤ 4
  · have HV := hid (show okE (x, s) = ((x == 0) == (s == 0)) by simp [okE, h4])
    go_enter Try.func60, Try.ntmps60
    go_wp2
    go_ret
    exact ⟨ret_b HV.out.symm, (Below.refl _ _).alloc (Nat.le_refl _) _⟩
  · have HV := hid (show okE (x, s) = false by simp [okE, h4])
    go_enter Try.func60, Try.ntmps60
    go_wp2
    go_ret
    exact ⟨ret_b HV.out.symm, (Below.refl _ _).alloc (Nat.le_refl _) _⟩

set_option maxRecDepth 100000 in
set_option maxHeartbeats 1000000 in
theorem RValid_any (a : Option Addr) (n c : Nat) (L : List Ent) (w : World) (ht : Tb w (.slice a n c) L) (hn : n ≤ 8796093022208) :
    Calls Try.prog 23 #[.slice a n c] w fun e w' => e = .returned (.bool (vld L)) ∧ Below w.heap.size w w' := by
  have HN := hid ht.len
  have HT := hid ht
  clear ht
  by_cases hs : 1 ≤ n ∧ n ≤ 16
  · obtain ⟨h1, h2⟩ := hs
    go_enter Try.func23, Try.ntmps23
    go_wp2
    go_loopw [3] (fun iv wr => ∃ i : Nat, i ≤ n ∧ iv = .int .i64 i ∧ Hid ((L.take i).all okE = true) ∧ Hid (Below w.heap.size w wr)) (fun iv _ => n - (intOf iv).toNat)
    case atStart => exact ⟨0, by omega, rfl, rfl, hid (Below.refl _ _)⟩
    case round =>
      obtain ⟨i, hi, rfl, HO, HB⟩ := hrel
      by_cases hlt : i < n
      · obtain ⟨b, o, rfl, hb⟩ := HT.out.addr (by omega)
        obtain ⟨q0, q1⟩ := (HT.out.below HB.out).cells i hlt
        obtain ⟨x, hx⟩ : ∃ x, x = (gd L i).1 := ⟨_, rfl⟩
        obtain ⟨s, hs⟩ : ∃ x, x = (gd L i).2 := ⟨_, rfl⟩
        rw [← hx] at q0
        rw [← hs] at q1
        have HG := hid (show gd L i = (x, s) by rw [hx, hs])
        clear hx hs
        have hsz := HB.out.size
        by_cases hok : okE (x, s) = true
        · have HO2 := hid (all_up (by rw [← HN.out]; exact hlt) HO.out (by rw [HG.out]; exact hok))
          have HC := hid (fun wx => (good_any x s wx).mono fun e w' h => (⟨by rw [h.1, hok], h.2⟩ : e = .returned (.bool true) ∧ Below wx.heap.size wx w'))
          clear hok
          go_wp2_with fail
          refine (HC.out _).mono ?_
          rintro e w1 ⟨rfl, hb1⟩
          have HB1 := hid (HB.out.trans (hb1.mono HB.out.size))
          clear hb1
          go_wp2
          exact ⟨⟨i + 1, by omega, by go_num, HO2, HB1⟩, by simp [intOf]; omega⟩
        · have HV := hid (vld_bad (L := L) (i := i) (by rw [← HN.out]; exact hlt) (by rw [HG.out]; simpa using hok))
          have hok : okE (x, s) = false := by simpa using hok
          have HC := hid (fun wx => (good_any x s wx).mono fun e w' h => (⟨by rw [h.1, hok], h.2⟩ : e = .returned (.bool false) ∧ Below wx.heap.size wx w'))
          clear hok
          go_wp2_with fail
          refine (HC.out _).mono ?_
          rintro e w1 ⟨rfl, hb1⟩
          have HB1 := hid (HB.out.trans (hb1.mono HB.out.size))
          clear hb1
          go_wp2
          go_ret
          exact ⟨ret_b HV.out.symm, HB1.out⟩
      · obtain rfl : i = n := by omega
        have HV := hid (vld_end HN.out HO.out h1 h2)
        go_wp2
        go_ret
        exact ⟨ret_b HV.out.symm, HB.out⟩
  · have HV := hid (vld_size HN.out hs)
    by_cases h1 : 1 ≤ n
    · have h2 : 16 < n := by omega
      clear hs
      go_enter Try.func23, Try.ntmps23
      go_wp2
      go_ret
      exact ⟨ret_b HV.out.symm, Below.refl _ _⟩
    · have h2 : n = 0 := by omega
      subst h2
      clear hs
      go_enter Try.func23, Try.ntmps23
      go_wp2
      go_ret
      exact ⟨ret_b HV.out.symm, Below.refl _ _⟩

end Go.Proofs.Ytbdefmjjhkonjaa
