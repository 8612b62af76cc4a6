/-
  string(bytes) of bytes that read as a list.
-/
import Derived.Test.YtafkjfpmjhfofaaDoorBytes
import Derived.Laws.BytesArg
namespace Go.Proofs.YtafkjfpmjhfofaaDoor
open Go.RowKit

def bstr (l : List Nat) : ByteArray := ⟨(l.map UInt8.ofNat).toArray⟩
theorem conv_bs {w : World} {a : Option Addr} {n c : Nat} {l : List Nat} (h : Bs w (.slice a n c) l) : (convert 22 9 (.slice a n c)).run Tryd.prog w = .ok (.string (bstr l)) w := by
  have hn := h.len
  rcases h.addr with ⟨h0, a', c', hv⟩ | ⟨h0, b, o, c', hv⟩
  · simp only [Value.slice.injEq] at hv
    obtain ⟨rfl, rfl, rfl⟩ := hv
    subst h0
    cases a with
    | none => exact run_convert_bytes_nil w _ _ Tryd.underlying22 Tryd.underlying5 _ _ _ Tryd.underlying9
    | some x =>
      have h2 := run_bytesToString (P := Tryd.prog) w x 0 c [] (by simpa using run_loadCells_list (P := Tryd.prog) w x [] (by simp))
      rw [run_convert_bytes_string w _ _ _ _ 0 c Tryd.underlying22 Tryd.underlying5 Tryd.underlying9, h2]
      rfl
  · simp only [Value.slice.injEq] at hv
    obtain ⟨rfl, rfl, rfl⟩ := hv
    have h2 := run_convert_bytes_arg (P := Tryd.prog) w 22 5 Tryd.underlying22 Tryd.underlying5 b o l.length c (l.map fun (x : Nat) => (x : Int)) (by simp) (fun i hi => by
      rw [h.cell i hi]
      simp [List.getElem?_eq_getElem hi]) 9 Tryd.underlying9
    rw [h2]
    simp [strOfNums, bstr, Function.comp_def]
theorem bstr_inj {a b : List Nat} (ha : ∀ n ∈ a, n < 256) (hb : ∀ n ∈ b, n < 256) (h : bstr a = bstr b) : a = b := by
  have h1 : a.map UInt8.ofNat = b.map UInt8.ofNat := by
    have := congrArg (fun x : ByteArray => x.data.toList) h
    simpa [bstr] using this
  have e : ∀ l : List Nat, (∀ n ∈ l, n < 256) → (l.map UInt8.ofNat).map UInt8.toNat = l := by
    intro l hl
    rw [List.map_map]
    conv => rhs; rw [← List.map_id l]
    apply List.map_congr_left
    intro x hx
    have := hl x hx
    show (UInt8.ofNat x).toNat = x
    rw [UInt8.toNat_ofNat']
    omega
  rw [← e a ha, ← e b hb, h1]
end Go.Proofs.YtafkjfpmjhfofaaDoor
