/-
  Encode: all pieces of an object; the errors.
-/
import Derived.Test.YtafkjfpmjhfofaaDoorCopyP
import Derived.Test.YtafkjfpmjhfofaaDoorOnce
namespace Go.Proofs.YtafkjfpmjhfofaaDoor
open Go.RowKit

/-- the block holds k pieces of L bytes with the bytes D, each in a block of its own -/
structure Pcs (w : World) (b B k L : Nat) (bf : Nat → Nat) (D : Nat → List Nat) : Prop where
  own : POwn w b (mkps bf L k k)
  row : ∀ j, j < k → Own w (bf j) (D j)
  low : ∀ j, j < k → B ≤ bf j
  inj : ∀ i j, i < j → j < k → bf i ≠ bf j
  notb : ∀ j, j < k → bf j ≠ b

theorem Encode_nilsize (fb : Nat) (k t : Int) (a : Option Addr) (n c : Nat) (h : ¬ (1 ≤ k ∧ k ≤ t ∧ t ≤ 255)) (w : World) :
    Calls Tryd.prog 38 #[.pointer (some ⟨fb, 0, none⟩), .int .i64 k, .int .i64 t, .slice a n c] w fun e w' => e = .returned (.tuple #[.slice none 0 0, .int .i64 2]) ∧ w = w' := by
  have hnot : ∀ (x : Bool) (w : World), (Op.unary .not (.bool x)).run Tryd.prog w = .ok (.bool (!x)) w := fun _ _ => rfl
  have H := hid h
  clear h
  go_enter Tryd.func38, Tryd.ntmps38
  go_wp2_with (go_at_call 61; refine (valid_no k t H.out _).mono ?_; rintro e w' ⟨rfl, rfl⟩)
  go_ret2
  exact ⟨rfl, rfl⟩
theorem Encode_long (fb : Nat) (k t : Int) (a : Option Addr) (n c : Nat) (h1 : 1 ≤ k) (h2 : k ≤ t) (h3 : t ≤ 255) (hn : 8192 < n) (w : World) :
    Calls Tryd.prog 38 #[.pointer (some ⟨fb, 0, none⟩), .int .i64 k, .int .i64 t, .slice a n c] w fun e w' => e = .returned (.tuple #[.slice none 0 0, .int .i64 3]) ∧ w = w' := by
  have hnot : ∀ (x : Bool) (w : World), (Op.unary .not (.bool x)).run Tryd.prog w = .ok (.bool (!x)) w := fun _ _ => rfl
  go_enter Tryd.func38, Tryd.ntmps38
  go_wp2_with (go_at_call 61; refine (valid_yes k t h1 h2 h3 _).mono ?_; rintro e w' ⟨rfl, rfl⟩)
  go_ret2
  exact ⟨rfl, rfl⟩

theorem pos_size36 : (Tryd.prog.info? 43).map (·.size) = some 2 := by kernel_rfl

/-- what the loop of Encode keeps: the source's parts, the pieces made so far -/
structure EncInv (fb f g pb sb xb k t L : Nat) (bf0 bf : Nat → Nat) (d : List Nat) (w wr : World) (i : Nat) : Prop where
  built : Built wr fb
  first : POwn wr f (mkps bf0 L k k)
  src : ∀ j, j < k → Own wr (bf0 j) (spl d L j)
  places : Own wr pb (List.range k)
  scl : Own wr sb (scales (List.range k))
  box : wr.heap[xb]? = some (Obj.cells #[Value.slice (some ⟨f, 0, none⟩) k k, Value.pointer (some ⟨fb, 0, none⟩), Value.slice (some ⟨pb, 0, none⟩) k k, Value.slice (some ⟨sb, 0, none⟩) k k] 108)
  out : POwn wr g (mkps bf L t i)
  rows : ∀ j, j < i → Own wr (bf j) (encP d k L j)
  same : ∀ j, j < k → bf j = bf0 j
  up : ∀ i' j, i' < j → j < i → bf i' < bf j
  notg : ∀ j, j < i → bf j ≠ g
  low : ∀ j, j < i → w.heap.size ≤ bf j
  kept : Kept fb w wr
  ne : fb ≠ g ∧ f ≠ g ∧ pb ≠ g ∧ sb ≠ g ∧ xb ≠ g
  glow : w.heap.size ≤ g

theorem EncInv.step {fb f g pb sb xb k t L : Nat} {bf0 bf : Nat → Nat} {d : List Nat} {w wr : World} {i : Nat} (h : EncInv fb f g pb sb xb k t L bf0 bf d w wr i) (hi : i < t) (hk : k ≤ i) (w5 : World) (ob : Nat) (hb : Below wr.heap.size wr w5) (hob : wr.heap.size ≤ ob) (ho : Own w5 ob (encP d k L i)) :
    EncInv fb f g pb sb xb k t L bf0 (fun j => if j = i then ob else bf j) d w ((w5.setCell ⟨g, i * 2, none⟩ (.int .i64 i)).setCell ⟨g, i * 2 + 1, none⟩ (.slice (some ⟨ob, 0, none⟩) L L)) (i + 1) := by
  obtain ⟨n1, n2, n3, n4, n5⟩ := h.ne
  have hgl := h.out.lt
  have hos := h.out.below hb hgl
  have hset := hos.set i (by rw [mkps_length]; exact hi) ((i : Int), some ⟨ob, 0, none⟩, L, L)
  rw [mkps_set bf L t i ob hi] at hset
  refine ⟨?_, ?_, ?_, ?_, ?_, ?_, hset, ?_, ?_, ?_, ?_, ?_, ?_, h.ne, h.glow⟩
  · exact ((h.built.below hb h.built.lt).setCell (fun e => n1 e.symm) _).setCell (fun e => n1 e.symm) _
  · exact ((h.first.below hb h.first.lt).setCell (fun e => n2 e.symm) _).setCell (fun e => n2 e.symm) _
  · intro j hj
    have h1 := h.src j hj
    have h2 := h.notg j (by omega)
    rw [h.same j hj] at h2
    exact ((h1.below hb h1.lt).setCell (fun e => h2 e.symm) _).setCell (fun e => h2 e.symm) _
  · exact ((h.places.below hb h.places.lt).setCell (fun e => n3 e.symm) _).setCell (fun e => n3 e.symm) _
  · exact ((h.scl.below hb h.scl.lt).setCell (fun e => n4 e.symm) _).setCell (fun e => n4 e.symm) _
  · have hx := lt_of_heap h.box
    exact (Below.heap_setCell _ _ _ _ n5).trans ((Below.heap_setCell _ _ _ _ n5).trans ((hb.block xb hx).trans h.box))
  · intro j hj
    show Own _ (if j = i then ob else bf j) _
    by_cases e : j = i
    · rw [if_pos e, e]
      exact (ho.setCell (fun e2 : g = ob => by omega) _).setCell (fun e2 : g = ob => by omega) _
    · rw [if_neg e]
      have h1 := h.rows j (by omega)
      have h2 := h.notg j (by omega)
      exact ((h1.below hb h1.lt).setCell (fun e => h2 e.symm) _).setCell (fun e => h2 e.symm) _
  · intro j hj
    show (if j = i then ob else bf j) = _
    rw [if_neg (by omega)]; exact h.same j hj
  · intro i' j hij hj
    show (if i' = i then ob else bf i') < (if j = i then ob else bf j)
    rw [if_neg (by omega)]
    by_cases e : j = i
    · rw [if_pos e]; have := (h.rows i' (by omega)).lt; omega
    · rw [if_neg e]; exact h.up i' j hij (by omega)
  · intro j hj
    show (if j = i then ob else bf j) ≠ g
    by_cases e : j = i
    · rw [if_pos e]; omega
    · rw [if_neg e]; exact h.notg j (by omega)
  · intro j hj
    show w.heap.size ≤ (if j = i then ob else bf j)
    by_cases e : j = i
    · rw [if_pos e]; have := h.glow; omega
    · rw [if_neg e]; exact h.low j (by omega)
  · exact ((h.kept.trans (Kept.of_below hb)).setNew h.glow _).setNew h.glow _

set_option maxRecDepth 100000 in
set_option maxHeartbeats 1000000 in
theorem Encode_any (fb k t : Nat) (a : Option Addr) (n c : Nat) (d : List Nat) (w : World) (hF : Fld w fb) (hd : Bs w (.slice a n c) d) (hoff : Off fb (.slice a n c)) (hnc : n ≤ c) (h1 : 1 ≤ k) (h2 : k ≤ t) (h3 : t ≤ 255) (hn : n ≤ 8192) :
    Calls Tryd.prog 38 #[.pointer (some ⟨fb, 0, none⟩), .int .i64 k, .int .i64 t, .slice a n c] w fun e w' => ∃ g bf, w.heap.size ≤ g ∧ e = .returned (.tuple #[.slice (some ⟨g, 0, none⟩) t t, .int .i64 0]) ∧ Pcs w' g w.heap.size t (plen k n) bf (encP d k (plen k n)) ∧ Built w' fb ∧ Kept fb w w' := by
  have hnot : ∀ (x : Bool) (w : World), (Op.unary .not (.bool x)).run Tryd.prog w = .ok (.bool (!x)) w := fun _ _ => rfl
  have hmk := mk_p t (by omega)
  have HF := hid hF
  have hfb0 := hF.lt
  clear hF
  have hLn := plen_le k n h1
  go_enter Tryd.func38, Tryd.ntmps38
  go_wp2_with fail
  refine (valid_yes k t (by omega) (by omega) (by omega) _).mono ?_
  rintro e w' ⟨rfl, rfl⟩
  go_wp2_with fail
  refine (build_any fb _ HF.out).mono ?_
  rintro e w1 ⟨rfl, hB, hk⟩
  have hd1 := hd.kept hk hoff
  go_wp2_with fail
  refine (split_any k a n c d _ hd1 hnc h1 (by omega) hn).mono ?_
  rintro e w2 ⟨bf0, rfl, hpo, hrow, hinj, hb2⟩
  have HROW := hid hrow
  have HINJ := hid hinj
  have hspl : ∀ {j}, ∀ n' ∈ spl d (plen k n) j, n' < 256 := fun {j} x hx => by
    unfold spl at hx
    obtain ⟨c', _, rfl⟩ := List.mem_map.1 hx
    exact hd.lt _
  have HSPL := hid (fun j => @hspl j)
  clear hrow hinj hd hd1 hspl
  generalize hL : plen k n = L at *
  have HL := hid hL
  clear hL
  have hf2 := hpo.lt
  have hlenk : (pcells (mkps bf0 L k k)).length = k * 2 := by rw [pcells_length, mkps_length]; omega
  have hlent : (pcells (mkps bf0 L k k)).length ≤ (pcells (List.replicate t (0, none, 0, 0))).length := by rw [pcells_length, mkps_length, pcells_length, List.length_replicate]; omega
  have hp2 := pown_prow w2 t
  have hpo2 := hpo.alloc (prow t)
  have hmin : Nat.min k t = k := Nat.min_eq_left h2
  have hsrc : ∀ j v, (pcells (mkps bf0 L k k))[j]? = some v → (w2.alloc (prow t)).cell? ((⟨w1.heap.size, 0, none⟩ : Addr).add j) = some v := fun j v hj => by
    have e : (⟨w1.heap.size, 0, none⟩ : Addr).add j = ⟨w1.heap.size, j, none⟩ := by unfold Addr.add; split <;> simp_all
    rw [e, cell_of_heap hpo2]
    simpa using hj
  have HS := hid hsrc
  have HMIN := hid hmin
  have HONE := hid (pcells_one (mkps bf0 L k k))
  have HP2 := hid hp2
  have hcop := pcells_copied bf0 L k t h2
  have HCOP := hid hcop
  clear hsrc hmin hp2 hcop
  generalize hcs : pcells (mkps bf0 L k k) = cs at *
  have HCS := hid hcs
  clear hcs
  have HLK := hid hlenk
  clear hlenk
  go_wp2_with (refine wpList_copy_pairs rfl (.tmp 30) (.tmp 31) 28 28 rfl 43 Tryd.underlying28 pos_size36 w2.heap.size t t ⟨w1.heap.size, 0, none⟩ k k rfl rfl (pcells (List.replicate t (0, none, 0, 0))) 43 ?hg cs k HMIN.out HLK.out HS.out hlent HONE.out ?_)
  case hg => exact HP2.out
  intro w3 hg3 hk3
  have hout3 : POwn w3 w2.heap.size (mkps bf0 L t k) := by
    have := hg3.out
    rw [HCOP.out] at this
    exact this
  have hfirst3 : POwn w3 w1.heap.size (mkps bf0 L k k) := (hk3.block w1.heap.size (by simp; omega) (by omega)).trans hpo2
  have hB3 : Built w3 fb := (hk3.block fb (by have := hB.lt; have := hb2.size; simp; omega) (by have := hB.lt; have := hb2.size; omega)).trans ((hB.below hb2 hB.lt).alloc _)
  have hb23 : Below w1.heap.size w1 w3 := (hb2.trans ((Below.refl _ _).alloc (by omega) _)).trans (hk3.below (by simp; omega) (by omega))
  have hps3 := hfirst3.ps k k (by rw [mkps_length])
  have HPS3 := hid hps3
  have HK3 := hid hk3
  clear hps3 hpo2 hk3 hg3 HP2 HS hlent
  have hrl : (List.range k).length = (mkps bf0 L k k).length := by rw [mkps_length]; simp
  have hnum : ∀ i, (h : i < (mkps bf0 L k k).length) → (mkps bf0 L k k)[i].1 = (((List.range k).getD i 0 : Nat) : Int) := fun i h => by
    rw [mkps_length] at h
    rw [mkps_get _ _ _ _ _ _ h]
    simp [List.getElem?_range h]
  have hrange : ∀ x ∈ List.range k, x < 256 := fun x hx => by have := List.mem_range.1 hx; omega
  have hnod : (List.range k).Nodup := List.nodup_range
  have HNUM := hid hnum
  have HRL := hid hrl
  have HRANGE := hid hrange
  have HNOD := hid hnod
  clear hnum hrl hrange hnod
  go_wp2_with fail
  refine (newSource_n fb w1.heap.size 0 k k (mkps bf0 L k k) (List.range k) (by rw [mkps_length]) _ hB3 HPS3.out (by omega) (by omega) HRL.out HNUM.out HRANGE.out HNOD.out).mono ?_
  rintro e w4 ⟨pb, sb, hpb, hsb, rfl, hopb, hosb, hb4⟩
  have hsz34 := hb4.size
  have hB4 := hB3.below hb4 hB3.lt
  have hout4 := hout3.below hb4 hout3.lt
  have hfirst4 := hfirst3.below hb4 hfirst3.lt
  have hinv : EncInv fb w1.heap.size w2.heap.size pb sb w4.heap.size k t L bf0 bf0 d w (w4.alloc (Obj.cells #[Value.slice (some ⟨w1.heap.size, 0, none⟩) k k, Value.pointer (some ⟨fb, 0, none⟩), Value.slice (some ⟨pb, 0, none⟩) k k, Value.slice (some ⟨sb, 0, none⟩) k k] 108)) k := by
    have hsz1 : w.heap.size ≤ w1.heap.size := hk.size
    have hr : ∀ j, j < k → Own w4 (bf0 j) (spl d L j) ∧ bf0 j ≠ w2.heap.size ∧ w.heap.size ≤ bf0 j := fun j hj => by
      obtain ⟨h5, h6⟩ := HROW.out j hj
      have h7 := h6.lt
      have h8 : Own w3 (bf0 j) (spl d L j) := (HK3.out.block (bf0 j) (by simp; omega) (by omega)).trans (h6.alloc _)
      exact ⟨h8.below hb4 h8.lt, by omega, by omega⟩
    have hb2s := hb2.size
    have h3s := HK3.out.size
    rw [World.size_alloc] at h3s
    refine ⟨hB4.alloc _, hfirst4.alloc _, fun j hj => (hr j hj).1.alloc _, hopb.alloc _, hosb.alloc _, heap_new _ _, hout4.alloc _, fun j hj => ?_, fun _ _ => rfl, fun i' j hij hj => HINJ.out i' j hij hj, fun j hj => (hr j hj).2.1, fun j hj => (hr j hj).2.2, ?_, ⟨by omega, by omega, by omega, by omega, by omega⟩, by omega⟩
    · unfold encP
      rw [if_pos hj]
      exact (hr j hj).1.alloc _
    · have hb34 : Below w1.heap.size w1 w4 := hb23.trans (hb4.mono (by omega))
      exact (hk.trans (Kept.of_below hb34)).alloc _
  have HINV := hid hinv
  have hpbl := hopb.lt
  have hsbl := hosb.lt
  have hw24 : w2.heap.size < w4.heap.size := hout4.lt
  clear hinv hopb hosb hB4 hout4 hfirst4 hb4 hB3 hout3 hfirst3 hb23 hpo hB
  go_wp2
  go_loopw [13] (fun iv wr => ∃ (i : Nat) (bf : Nat → Nat), k ≤ i ∧ i ≤ t ∧ iv = .int .i64 i ∧ Hid (EncInv fb w1.heap.size w2.heap.size pb sb w4.heap.size k t L bf0 bf d w wr i)) (fun iv _ => t - (intOf iv).toNat)
  case atStart => exact ⟨k, bf0, by omega, by omega, rfl, HINV⟩
  case round =>
    clear HINV
    obtain ⟨i, bf, hki, hit, rfl, HINV⟩ := hrel
    by_cases hlt : i < t
    · have hx := HINV.out.box
      have x0 := cell_of_heap hx 0
      have x1 := cell_of_heap hx 1
      have x2 := cell_of_heap hx 2
      have x3 := cell_of_heap hx 3
      clear hx
      have hps := HINV.out.first.ps k k (by rw [mkps_length])
      have HPS := hid hps
      clear hps
      have hdat : ∀ j, (h : j < (mkps bf0 L k k).length) → Bs wr (.slice (mkps bf0 L k k)[j].2.1 (mkps bf0 L k k)[j].2.2.1 (mkps bf0 L k k)[j].2.2.2) (((List.range k).map (spl d L)).getD j []) ∧ (((List.range k).map (spl d L)).getD j []).length = L := fun j h => by
        have hj : j < k := by rwa [mkps_length] at h
        rw [mkps_get _ _ _ _ _ h hj, range_map_getD _ _ _ hj]
        refine ⟨?_, spl_length _ _ _⟩
        have h5 := HINV.out.src j hj
        have h6 := h5.bs (HSPL.out j) L
        rw [spl_length] at h6
        exact h6
      have HDAT := hid hdat
      have hpl : Bs wr (.slice (some ⟨pb, 0, none⟩) k k) (List.range k) := by
        have h5 := HINV.out.places.bs HRANGE.out k
        rwa [List.length_range] at h5
      have hsl : Bs wr (.slice (some ⟨sb, 0, none⟩) k k) (scales (List.range k)) := by
        have h5 := HINV.out.scl.bs (scales_lt _) k
        rwa [scales_length, List.length_range] at h5
      clear hdat
      go_wp2_with fail
      refine (piece_any fb w1.heap.size 0 k pb 0 k sb 0 k k L i (mkps bf0 L k k) (List.range k) ((List.range k).map (spl d L)) _ HINV.out.built HPS.out (by omega) (by omega) (by rw [mkps_length]) (by rw [List.length_range]) HDAT.out hpl hsl (by omega) (by omega)).mono ?_
      rintro e w5 ⟨ob, hob, rfl, hoo, hb5⟩
      have hstep := HINV.out.step hlt hki w5 ob hb5 hob (by unfold encP; rw [if_neg (by omega)]; exact hoo)
      have HSTEP := hid hstep
      have hout := HINV.out.out.below hb5 HINV.out.out.lt
      have c0 := hout.cell0 i (by rw [mkps_length]; exact hlt)
      have c1 := hout.cell1 i (by rw [mkps_length]; exact hlt)
      have f0 := hout.free (i * 2)
      have f1 := hout.free (i * 2 + 1)
      generalize (mkps bf L t i)[i]'(by rw [mkps_length]; exact hlt) = p0 at *
      clear hstep hout hoo hb5 hpl hsl x0 x1 x2 x3
      go_wp2
      exact ⟨⟨i + 1, _, by omega, by omega, by go_num, HSTEP⟩, by simp [intOf]; omega⟩
    · obtain rfl : i = t := by omega
      go_wp2
      go_ret2
      rw [HL.out]
      refine ⟨w2.heap.size, bf, HINV.out.glow, rfl, ⟨HINV.out.out, HINV.out.rows, HINV.out.low, fun i' j hij hj => by have := HINV.out.up i' j hij hj; omega, HINV.out.notg⟩, HINV.out.built, HINV.out.kept⟩
end Go.Proofs.YtafkjfpmjhfofaaDoor
