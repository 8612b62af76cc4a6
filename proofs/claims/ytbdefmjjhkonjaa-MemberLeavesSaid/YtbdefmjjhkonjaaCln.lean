/-
  Copies of tables: slices.Clone, own.
-/
import Derived.Test.YtbdefmjjhkonjaaLrn
import Derived.Test.YtbdefmjjhkonjaaTv
import Derived.Laws.AppendOwnNone
namespace Go.Proofs.Ytbdefmjjhkonjaa
open Go Go.RowKit
set_option linter.unusedVariables false

theorem tb_of_owns {w : World} {base : Nat} {v : Value} {n : Nat} {L : List Ent} (h : w.ownsRow base 36 2 v n (ecl L)) : Tb w v L ∧ L.length = n := by
  obtain ⟨h1, h2⟩ := h
  rw [ecl_length] at h1
  have hl : L.length = n := by omega
  rcases h2 with ⟨rfl, rfl⟩ | ⟨g, cap, cur, rfl, h4, h5, h6, h7, h8, h9⟩
  · exact ⟨by rw [List.length_eq_zero_iff.1 hl]; exact tb_nil _, hl⟩
  · refine ⟨⟨_, cap, by rw [hl], by omega, fun e => by (cases e), fun _ => ⟨g, 0, rfl, lt_of_heap h5, fun j hj => ?_⟩⟩, hl⟩
    rw [Nat.zero_add, cell_of_heap h5, ← h9, List.getElem?_take_of_lt (by rw [ecl_length] at hj; omega)]
    simp
theorem owns_below {w w' : World} {base : Nat} {e : TypeId} {s n : Nat} {v : Value} {xs : List Value} (h : w.ownsRow base e s v n xs) (k : Below w.heap.size w w') : w'.ownsRow base e s v n xs := by
  obtain ⟨h1, h2⟩ := h
  refine ⟨h1, h2.imp id fun ⟨g, cap, cur, h3, h4, h5, r⟩ => ⟨g, cap, cur, h3, h4, (k.block g (lt_of_heap h5)).trans h5, r⟩⟩
/-- what v leads into lies at or behind B -/
def Fresh (B : Nat) : Value → Prop | .slice (some a) _ _ => B ≤ a.block | _ => True
theorem owns_fresh {w : World} {base n s : Nat} {e : TypeId} {v : Value} {xs : List Value} (h : w.ownsRow base e s v n xs) : Fresh base v := by
  rcases h.2 with ⟨rfl, _⟩ | ⟨g, cap, cur, rfl, h4, _⟩
  · trivial
  · exact h4
theorem addr_add (b o j : Nat) : (⟨b, o, none⟩ : Addr).add j = ⟨b, o + j, none⟩ := by unfold Addr.add; split <;> simp_all
theorem tb_news {w : World} {ad : Addr} {m c : Nat} {L : List Ent} (hb : Tb w (.slice (some ad) m c) L) : ∀ j u, (ecl L)[j]? = some u → w.cell? (ad.add j) = some u := fun j u hj => by
  have hjl := (List.getElem?_eq_some_iff.1 hj).1
  obtain ⟨a', c', h1, _, _, h4⟩ := hb
  simp only [Value.slice.injEq] at h1
  obtain ⟨b, o, ha, _, hc⟩ := h4 (by rintro rfl; exact absurd hjl (Nat.not_lt_zero _))
  have had : ad = ⟨b, o, none⟩ := Option.some.inj (h1.1.trans ha)
  subst had
  rw [addr_add, hc j hjl, hj]
theorem wpList_cloneT {w : World} {ops : Array Oper} {rest : List Oper} {o : Oper} {a : Act} {Q : Exit → Act → World → Prop} (hgd : o.guard = none) (s x : Operand)
    (ho : o.op = .call { callee := .builtin .append, args := #[s, x], argTypes := #[22, 22] }) (g0 : Nat) (hs : a.eval s = .slice (some ⟨g0, 0, none⟩) 0 0) (hg0 : w.heap[g0]? = some (.cells #[] 36 (0, 0)))
    (sa : Option Addr) (m c : Nat) (L : List Ent) (hx : a.eval x = .slice sa m c) (hb : Tb w (.slice sa m c) L) (hm : m ≤ 8796093022208)
    (h : ∀ v' w', w'.ownsRow g0 36 2 v' m (ecl L) → (∀ k, k < w.heap.size → k ≠ g0 → w'.heap[k]? = w.heap[k]?) → w.heap.size ≤ w'.heap.size → w'.os = w.os → w'.tape = w.tape → w'.output = w.output → wpList Try.prog ops Q rest (a.put o.dst v') w') :
    wpList Try.prog ops Q (o :: rest) a w := by
  obtain ⟨i0, hi, hz0, hz1, hz2⟩ := info_parts infoE
  have hown : w.ownsRow g0 36 2 (.slice (some ⟨g0, 0, none⟩) 0 0) 0 [] := ⟨rfl, .inr ⟨g0, 0, #[], rfl, Nat.le_refl _, hg0, Nat.le_refl _, Nat.zero_le _, rfl, rfl⟩⟩
  have hlt := lt_of_heap hg0
  have hlen := hb.len
  obtain ⟨_, hnil⟩ := hb.cap
  cases sa with
  | none =>
    have h0 : L = [] := by
      rcases Classical.em (L = []) with h | h
      · exact h
      · obtain ⟨a', c', h1, _, _, h4⟩ := hb
        obtain ⟨b, o', ha, _⟩ := h4 h
        simp only [Value.slice.injEq] at h1
        rw [ha] at h1
        exact absurd h1.1 (by simp)
    subst h0
    obtain rfl : m = 0 := hlen
    refine Go.wpList_append_own_none hgd s x _ ho g0 _ i0 2 Try.underlying22 hi _ 0 [] hs hown (by rw [hx, hnil rfl]) ?_
    exact h _ _ hown (fun _ _ _ => rfl) (Nat.le_refl _) rfl rfl rfl
  | some ad =>
    refine Go.wpList_append_own _ hgd s x _ ho g0 36 i0 (.agg #[.int .u64 0, .int .u8 0]) 2 16 Try.underlying22 hi hz0 hz1 hz2 rfl (by decide) _ 0 [] hs hown ad m c (ecl L) hx (by rw [ecl_length]; omega) (tb_news hb) (ecl_one L) (by unfold maxLen; omega) (by omega) (by omega) ?_
    intro v' w' hown' hg hn
    rw [Nat.zero_add, List.nil_append] at hown'
    exact h _ _ hown' (fun k hk hkg => hg.block k hk (by intro e; exact hkg (Option.some.inj e))) hg.size hg.os hg.tape hg.output

theorem clone_below {w w' : World} {o : Obj} (hk : ∀ k, k < w.heap.size + 1 → ¬ k = w.heap.size → w'.heap[k]? = (w.alloc o).heap[k]?) (hz : w.heap.size + 1 ≤ w'.heap.size) (ho : w'.os = w.os) (ht : w'.tape = w.tape) (hp : w'.output = w.output) : Below w.heap.size w w' :=
  ⟨ho, ht, hp, by omega, fun k hk' => (hk k (by omega) (by omega)).trans (Below.heap_alloc _ _ _ hk')⟩
set_option maxRecDepth 100000 in
set_option maxHeartbeats 1000000 in
theorem own_any (a : Option Addr) (n c : Nat) (L : List Ent) (w : World) (hb : Tb w (.slice a n c) L) (hn : n ≤ 8796093022208) :
    Calls Try.prog 18 #[.slice a n c] w fun e w' => ∃ v, e = .returned v ∧ w'.ownsRow w.heap.size 36 2 v n (ecl L) ∧ Below w.heap.size w w' := by
  have HB := hid hb
  clear hb
  go_enter Try.func18, Try.ntmps18
  go_wp2_with (refine wpList_cloneT rfl (.tmp 3) (.tmp 4) rfl w.heap.size rfl (heap_new w _) _ n c L rfl (HB.out.below ((Below.refl _ _).alloc (Nat.le_refl _) _)) hn ?_)
  intro v' w' hown hk hz ho ht hp
  have HO := hid hown
  have HL := hid (clone_below hk hz ho ht hp)
  clear hown hk hz ho ht hp
  go_wp2
  go_ret
  exact ⟨_, rfl, HO.out, HL.out⟩
set_option maxRecDepth 100000 in
set_option maxHeartbeats 1000000 in
theorem Clone_any (ad : Addr) (n c : Nat) (L : List Ent) (w : World) (hb : Tb w (.slice (some ad) n c) L) (hn : n ≤ 8796093022208) :
    Calls Try.prog 74 #[.slice (some ad) n c] w fun e w' => ∃ v, e = .returned v ∧ w'.ownsRow w.heap.size 36 2 v n (ecl L) ∧ Below w.heap.size w w' := by
  have HB := hid hb
  have hcmp : ∀ w : World, (Go.binOp .eql 22 (.slice (some ad) n c) (.slice none 0 0)).run Try.prog w = .ok (.bool false) w := fun w => by
    simp [Go.binOp]
    rfl
  clear hb
  go_enter Try.func74, Try.ntmps74
  go_wp2_with (refine wpList_cloneT rfl (.tmp 5) (.tmp 6) rfl w.heap.size rfl (heap_new w _) _ n c L rfl (HB.out.below ((Below.refl _ _).alloc (Nat.le_refl _) _)) hn ?_)
  intro v' w' hown hk hz ho ht hp
  have HO := hid hown
  have HL := hid (clone_below hk hz ho ht hp)
  clear hown hk hz ho ht hp
  go_wp2
  go_ret
  exact ⟨_, rfl, HO.out, HL.out⟩
end Go.Proofs.Ytbdefmjjhkonjaa
