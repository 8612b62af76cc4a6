/-
  Live: the live peers of a table and of a machine.
-/
import Derived.Test.YtbdefmjjhkonjaaMc
import Derived.Deep.AppendLies
namespace Go.Proofs.Ytbdefmjjhkonjaa
open Go Go.RowKit
set_option linter.unusedVariables false

theorem ints_snoc (l : List Nat) (i : Nat) : ints l ++ [.int .i64 (i : Int)] = ints (l ++ [i]) := by simp [ints]
theorem one_int (x : Int) : ∀ u ∈ [Value.int .i64 x], u.oneCell' = true := fun u hu => by rw [List.mem_singleton.1 hu]; rfl
theorem owns_nil (w : World) (base : Nat) (e : TypeId) (s : Nat) : w.ownsRow base e s (.slice none 0 0) 0 [] := ⟨by simp, .inl ⟨rfl, rfl⟩⟩

set_option maxRecDepth 100000 in
set_option maxHeartbeats 1000000 in
theorem Live_any (a : Option Addr) (n c : Nat) (L : List Ent) (w : World) (ht : Tb w (.slice a n c) L) (hn : n ≤ 100000) :
    Calls Try.prog 25 #[.slice a n c] w fun e w' => ∃ v, e = .returned v ∧ w'.ownsRow w.heap.size 3 1 v (liveL L n).length (ints (liveL L n)) ∧ Below w.heap.size w w' := by
  obtain ⟨i0, hi0, hz0, hz1, hz2⟩ := info_parts infoI
  have HN := hid ht.len
  have HT := hid ht
  clear ht
  go_enter Try.func25, Try.ntmps25
  go_wp2
  go_loopw [3, 8] (fun v iv wr => ∃ i : Nat, i ≤ n ∧ iv = .int .i64 i ∧ wr.ownsRow w.heap.size 3 1 v (liveL L i).length (ints (liveL L i)) ∧ Below w.heap.size w wr) (fun _ iv _ => n - (intOf iv).toNat)
  case atStart => exact ⟨0, by omega, rfl, owns_nil _ _ _ _, Below.refl _ _⟩
  case round =>
    obtain ⟨i, hi, rfl, hown, hb⟩ := hrel
    by_cases hlt : i < n
    · obtain ⟨b, o, rfl, hbl⟩ := HT.out.addr (by omega)
      obtain ⟨q0, q1⟩ := (HT.out.below hb).cells i hlt
      have HB := hid hb
      have hsz := hb.size
      have hln := liveL_len L i
      by_cases hl : liveE (gd L i) = true
      · have HL := hid (liveL_yes hl)
        have hz : ((gd L i).2 == 1 || (gd L i).2 == 2) = true := hl
        generalize (gd L i).2 = st at *
        generalize (gd L i).1 = ic at *
        obtain ⟨k, hk⟩ : ∃ k, k = (liveL L i).length := ⟨_, rfl⟩
        rw [← hk] at hown hln
        have HOWN := hid hown
        have HLT := hid fun g hg => (hown.lt g hg).1
        clear hown hb hl
        have HK := hid hk
        clear hk
        have hst : st = 1 ∨ st = 2 := by simpa using hz
        clear hz
        have E1 := hid (ints_snoc (liveL L i) i)
        rcases hst with rfl | rfl
        all_goals
          go_wp2_with (refine wpList_append_lies _ rfl (.tmp 21) (.tmp 23) _ rfl w.heap.size 3 i0 (.int .i64 0) 1 8 Try.underlying31 hi0 hz0 hz1 hz2 rfl (by decide) _ k (ints (liveL L i)) rfl ((HOWN.out.alloc _).alloc _) ⟨wr.heap.size + 1, 0, none⟩ 1 1 [.int .i64 (i : Int)] rfl rfl ?hnews ?hone (by omega) (by unfold maxLen; omega) (by omega) (by simp; omega) _ rfl ?_)
          case hnews => exact World.news_of_block (heap_new_at _ _ (by simp))
          case hone => exact one_int _
          intro g2 cap2 w2 hown2 hg2 hat hlt3
          rw [E1.out, ← HL.out] at hown2
          have hb2 : Below w.heap.size w w2 := ((HB.out.alloc hsz _).alloc (by simp; omega) _).grown hg2 (by simp; omega) HLT.out
          have e2 : k + 1 = (liveL L (i + 1)).length := by rw [HL.out, HK.out]; simp
          clear hat hlt3 hg2
          have HO2 := hid hown2
          have HB2 := hid hb2
          have HE2 := hid e2
          clear hown2 hb2 e2
          go_wp2
          exact ⟨⟨i + 1, by omega, by go_num, by rw [← HE2.out]; exact HO2.out, HB2.out⟩, by simp [intOf]; omega⟩
      · have hl : liveE (gd L i) = false := by simpa using hl
        have HL := hid (liveL_no hl)
        have hz : ((gd L i).2 == 1 || (gd L i).2 == 2) = false := hl
        generalize (gd L i).2 = st at *
        generalize (gd L i).1 = ic at *
        have h1 : (st == 1) = false := by simp at hz ⊢; exact hz.1
        have h2 : (st == 2) = false := by simp at hz ⊢; exact hz.2
        have HO := hid (hown.alloc (.cells #[.int .u64 ic, .int .u8 st] 36))
        clear hl hz hown hb
        go_wp2
        exact ⟨⟨i + 1, by omega, by go_num, by rw [HL.out]; exact HO.out, HB.out.alloc hsz _⟩, by simp [intOf]; omega⟩
    · obtain rfl : i = n := by omega
      go_wp2
      go_ret
      exact ⟨_, rfl, hown, hb⟩

theorem MLive_any {mb tb sb n self : Nat} {L : List Ent} {Z : List Int} {ck : Int} {pv : Value} {last pg dare : Int} (w : World) (h : Mc w mb tb sb n self L Z ck pv last pg dare) (hn : n ≤ 16) :
    Calls Try.prog 46 #[.pointer (some ⟨mb, 0, none⟩)] w fun e w' => ∃ v, e = .returned v ∧ w'.ownsRow w.heap.size 3 1 v (liveL L n).length (ints (liveL L n)) ∧ Below w.heap.size w w' := by
  obtain ⟨c0, c1, c2, c3, c4, c5, c6, c7⟩ := mch_cells h.m
  have HL := hid (Live_any (some ⟨tb, 0, none⟩) n n L w (by have := h.t.tb n (by have := h.ln; omega); rw [h.ln] at this; exact this) (by omega))
  clear h
  go_enter Try.func46, Try.ntmps46
  go_wp2_with fail
  refine HL.out.mono ?_
  rintro e w1 ⟨v, rfl, ho, hb⟩
  have HO := hid ho
  have HB := hid hb
  clear ho hb
  go_wp2
  go_ret
  exact ⟨_, rfl, HO.out, HB.out⟩
end Go.Proofs.Ytbdefmjjhkonjaa
