/- Slices of truths, of texts and of bytes as arguments. -/
import Derived.Test.YtiddnacmopfamaaDoorKyArg
import Derived.Test.YtiddnacmopfamaaDoorKyRow
import Derived.SliceStrings
import Derived.Deep.Grids
import Derived.Carry
namespace Go.Proofs.YtiddnacmopfamaaDoor
open Go.ChangeShapes Go.WideShapes Go.ChangeAt Go.RowKit Go.Joins Go.Deep
set_option linter.unusedVariables false
set_option linter.unusedSimpArgs false
set_option maxRecDepth 100000

theorem laidOut : laidOutB Tryd.prog = true := by kernel_rfl
theorem block_lt {w : World} {p : Addr} {v : Value} (h : w.cell? p = some v) : p.block < w.heap.size := by
  rcases Nat.lt_or_ge p.block w.heap.size with hlt | hge
  · exact hlt
  · simp [World.cell?, Array.getElem?_eq_none hge] at h
section
variable {H : Type} {enc : TypeId × Value → H} {w : World} {base : Nat} {held : Bool}

/-- The datum of a slice has so many elements. -/
def Many (d : DataW H) (n : Nat) : Prop := (d = .nil ∧ n = 0) ∨ ∃ el sp, d = .slice el sp ∧ el.length = n

theorem open_truths {t e : TypeId} (ht : Tryd.prog.underlying t = some (.slice e)) (he : Tryd.prog.underlying e = some .bool) (hc : Tryd.prog.cellsOf e = 1) {r : Reach} {b0 : Nat} {v : Value} {d : DataW H} {p : List MemPlace} (hv : Value.okWide Tryd.prog w r b0 t v)
    (h : DataW.Trod enc Tryd.prog w base (fun _ => true) held t v d p) :
    ∃ (A : Option Addr) (xs : List Bool) (c : Nat), v = .slice A xs.length c ∧ RdB w A xs ∧ Many d xs.length := by
  obtain ⟨a, l, c, rfl⟩ := okWide_slice ht hv
  obtain ⟨fuel, hf⟩ := h
  rcases open_bools ht he hc hf with ⟨hcs, hx⟩ | ⟨a', len, cap, B, hcs, _, hl, hm, hx, hcell⟩
  · replace hcs : [Value.slice a l c] = _ := hcs
    simp only [List.cons.injEq, and_true] at hcs
    simp only [Prod.mk.injEq] at hx
    refine ⟨none, [], 0, by simpa using hcs, fun j hj => by simp at hj, .inl ⟨hx.1, rfl⟩⟩
  · replace hcs : [Value.slice a l c] = _ := hcs
    simp only [List.cons.injEq, and_true] at hcs
    simp only [Prod.mk.injEq] at hx
    refine ⟨some a', (List.range len).map B, cap, by simpa using hcs, fun j hj => ?_, .inr ⟨_, _, hx.1, by simp⟩⟩
    have hj' : j < len := by simpa using hj
    have hcl := hcell j (by omega)
    refine ⟨a', rfl, ?_, by rw [hcl]; simp [List.getD, hj']⟩
    have := block_lt hcl
    rwa [block_of_plus] at this

theorem open_texts {t e : TypeId} (ht : Tryd.prog.underlying t = some (.slice e)) (he : Tryd.prog.underlying e = some .string) (hc : Tryd.prog.cellsOf e = 1) {r : Reach} {b0 : Nat} {v : Value} {d : DataW H} {p : List MemPlace} (hv : Value.okWide Tryd.prog w r b0 t v)
    (h : DataW.Trod enc Tryd.prog w base (fun _ => true) held t v d p) :
    ∃ (A : Option Addr) (xs : List ByteArray) (c : Nat), v = .slice A xs.length c ∧ RdS w A xs ∧ Many d xs.length ∧ ∀ s ∈ xs, s.data.toList.length ∈ DataW.weights Tryd.prog t d := by
  obtain ⟨a, l, c, rfl⟩ := okWide_slice ht hv
  obtain ⟨fuel, hf⟩ := h
  rcases open_strings ht he hc hf with ⟨hcs, hx⟩ | ⟨a', len, cap, ss, hcs, _, hl, hm, hz, hx, hcell, _⟩
  · replace hcs : [Value.slice a l c] = _ := hcs
    simp only [List.cons.injEq, and_true] at hcs
    simp only [Prod.mk.injEq] at hx
    exact ⟨none, [], 0, by simpa using hcs, fun j hj => by simp at hj, .inl ⟨hx.1, rfl⟩, fun s hs => by simp at hs⟩
  · replace hcs : [Value.slice a l c] = _ := hcs
    simp only [List.cons.injEq, and_true] at hcs
    simp only [Prod.mk.injEq] at hx
    simp only [if_true] at hz
    have hlz : len ≤ ss.length := by omega
    refine ⟨some a', ss.take len, cap, by rw [List.length_take, Nat.min_eq_left hlz]; simpa using hcs, fun j hj => ?_, .inr ⟨_, _, hx.1, by simp [strs]⟩, fun s hs => ?_⟩
    · have hj' : j < len := by simp at hj; omega
      have hcl := hcell j (by omega)
      refine ⟨a', rfl, ?_, by rw [hcl]; simp [List.getD, hj']; rfl⟩
      have := block_lt hcl
      rwa [block_of_plus] at this
    · rw [hx.1]
      have hall : ∀ l : List ByteArray, s ∈ l → s.data.toList.length ∈ DataW.weightsAll Tryd.prog e (strs l : List (DataW H)) := by
        intro l hm
        induction l with
        | nil => simp at hm
        | cons x t ih =>
          simp only [strs, List.map_cons, DataW.weightsAll, List.mem_append]
          rcases List.mem_cons.1 hm with rfl | hm
          · left; simp [DataW.weights]
          · right; exact ih hm
      simp only [DataW.weights, ht, List.mem_cons, List.mem_append]
      exact .inr (.inl (hall _ hs))

theorem open_bytes {t e : TypeId} (ht : Tryd.prog.underlying t = some (.slice e)) (he : Tryd.prog.underlying e = some (.int .u8)) (hc : Tryd.prog.cellsOf e = 1) {r : Reach} {b0 : Nat} {v : Value} {d : DataW H} {p : List MemPlace} (hv : Value.okWide Tryd.prog w r b0 t v)
    (h : DataW.Trod enc Tryd.prog w base (fun _ => true) held t v d p) :
    ∃ (A : Option Addr) (xs : List UInt8) (c : Nat), v = .slice A xs.length c ∧ xs.length ≤ c ∧ c ≤ maxLen ∧ Rd w w.heap.size .u8 A (bI xs) ∧ Many d xs.length := by
  obtain ⟨a, l, c, rfl⟩ := okWide_slice ht hv
  obtain ⟨fuel, hf⟩ := h
  rcases open_ints ht he hc hf with ⟨hcs, hx⟩ | ⟨a', len, cap, zs, hcs, _, hl, hm, hz, hx, hcell, hwz⟩
  · replace hcs : [Value.slice a l c] = _ := hcs
    simp only [List.cons.injEq, and_true] at hcs
    simp only [Prod.mk.injEq] at hx
    exact ⟨none, [], 0, by simpa using hcs, by simp, by simp, Rd.nil, .inl ⟨hx.1, rfl⟩⟩
  · replace hcs : [Value.slice a l c] = _ := hcs
    simp only [List.cons.injEq, and_true] at hcs
    simp only [Prod.mk.injEq] at hx
    simp only [if_true] at hz
    have hlz : len ≤ zs.length := by omega
    have hb : bI ((zs.take len).map fun n => UInt8.ofNat n.toNat) = zs.take len := by
      unfold bI
      rw [List.map_map]
      refine (List.map_congr_left fun n hn => ?_).trans (List.map_id _)
      have hw := hwz n (List.mem_of_mem_take hn)
      have h2 : 0 ≤ n ∧ n ≤ 255 := by
        exact bounds_u8 hw
      simp
      omega
    refine ⟨some a', (zs.take len).map fun n => UInt8.ofNat n.toNat, cap, by simpa [Nat.min_eq_left hlz] using hcs, by simp; omega, hm, ?_, .inr ⟨_, _, hx.1, by simp [lits]⟩⟩
    rw [hb]
    intro hn
    have hl0 : 0 < len := by simp at hn; omega
    refine ⟨a', rfl, ?_, fun j hj => ?_⟩
    · have := block_lt (hcell 0 (by omega))
      rwa [block_of_plus] at this
    · have hjl : j < len := by simp at hj; omega
      rw [hcell j (by omega)]
      simp [List.getD, hjl]
end
section
variable {H : Type} {ts : List TypeId} {ds : List (DataW H)}
theorem sized_many (h : (DataW.weightsEach Tryd.prog ts ds).all (· ≤ reachBytes) = true) {j : Nat} {t e : TypeId} {d : DataW H} {n : Nat} (hm : Many d n) (ht : ts[j]? = some t) (hd : ds[j]? = some d) (hu : Tryd.prog.underlying t = some (.slice e)) (hb : 0 < Tryd.prog.bytesOf e) : n ≤ 140737488355328 := by
  rcases hm with ⟨_, rfl⟩ | ⟨el, sp, rfl, rfl⟩
  · omega
  · have h1 := sized_slice h ht hd hu
    have := reachBytes_lt
    have h2 : el.length ≤ (el.length + sp.length) * Tryd.prog.bytesOf e := Nat.le_trans (Nat.le_add_right _ _) (Nat.le_mul_of_pos_right _ hb)
    omega
theorem sized_texts (h : (DataW.weightsEach Tryd.prog ts ds).all (· ≤ reachBytes) = true) {j : Nat} {t : TypeId} {d : DataW H} {xs : List ByteArray} (hm : ∀ s ∈ xs, s.data.toList.length ∈ DataW.weights Tryd.prog t d) (ht : ts[j]? = some t) (hd : ds[j]? = some d) : ∀ s ∈ xs, s.size ≤ 140737488355328 := by
  intro s hs
  have := List.all_eq_true.1 h _ (DataW.weights_mem_each ht hd _ (hm s hs))
  have hl : s.data.toList.length = s.size := rfl
  have h2 : s.data.toList.length ≤ reachBytes := by simpa using this
  have := reachBytes_lt
  omega
end
end Go.Proofs.YtiddnacmopfamaaDoor
