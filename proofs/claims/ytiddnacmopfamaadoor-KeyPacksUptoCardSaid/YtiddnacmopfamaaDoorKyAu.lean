/- What the bound on all that came in gives of lists of texts and bytes. -/
import Derived.Test.YtiddnacmopfamaaDoorKyAr
import Derived.Test.YtiddnacmopfamaaDoorKyO
namespace Go.Proofs.YtiddnacmopfamaaDoor
open Go.ChangeShapes Go.WideShapes Go.ChangeAt Go.RowKit Go.Joins Go.Deep
set_option linter.unusedVariables false
set_option linter.unusedSimpArgs false
set_option maxRecDepth 100000

theorem bulk_pos {H : Type} (d : DataW H) : 1 ≤ Rows.uptoBulk d := by
  cases d with
  | lit l => cases l <;> simp [Rows.uptoBulk]
  | nil => simp [Rows.uptoBulk]
  | ptr d => simp [Rows.uptoBulk]
  | slice elems spare => simp [Rows.uptoBulk]
  | agg parts => simp [Rows.uptoBulk]
  | iface t d => simp [Rows.uptoBulk]
  | map entries => simp [Rows.uptoBulk]
  | held h => simp [Rows.uptoBulk]
theorem bulk_len {H : Type} : ∀ l : List (DataW H), l.length ≤ Rows.uptoBulkAll l
  | [] => by simp
  | x :: r => by
    have h1 := bulk_pos x
    have h2 := bulk_len r
    simp only [Rows.uptoBulkAll, List.length_cons]
    omega
theorem bulk_strs {H : Type} : ∀ xs : List ByteArray, Rows.uptoBulkAll (strs xs : List (DataW H)) = xs.length + sumS xs
  | [] => by simp [strs, Rows.uptoBulkAll, sumS]
  | x :: r => by
    have h2 := bulk_strs (H := H) r
    have hl : x.data.toList.length = x.size := rfl
    simp only [strs, sumS, List.map_cons, Rows.uptoBulkAll, Rows.uptoBulk, List.sum_cons, List.length_cons] at h2 ⊢
    rw [h2, hl]
    omega
section
variable {H : Type} {enc : TypeId × Value → H} {w : World} {base : Nat} {held : Bool}
theorem open_texts2 {t e : TypeId} (ht : Tryd.prog.underlying t = some (.slice e)) (he : Tryd.prog.underlying e = some .string) (hc : Tryd.prog.cellsOf e = 1) {r : Reach} {b0 : Nat} {v : Value} {d : DataW H} {p : List MemPlace} (hv : Value.okWide Tryd.prog w r b0 t v)
    (h : DataW.Trod enc Tryd.prog w base (fun _ => true) held t v d p) :
    ∃ (A : Option Addr) (xs : List ByteArray) (c : Nat), v = .slice A xs.length c ∧ RdS w A xs ∧ xs.length + sumS xs ≤ Rows.uptoBulk d := by
  obtain ⟨a, l, c, rfl⟩ := okWide_slice ht hv
  obtain ⟨fuel, hf⟩ := h
  rcases open_strings ht he hc hf with ⟨hcs, hx⟩ | ⟨a', len, cap, ss, hcs, _, hl, hm, hz, hx, hcell, _⟩
  · replace hcs : [Value.slice a l c] = _ := hcs
    simp only [List.cons.injEq, and_true] at hcs
    simp only [Prod.mk.injEq] at hx
    exact ⟨none, [], 0, by simpa using hcs, fun j hj => by simp at hj, by simp [sumS]⟩
  · replace hcs : [Value.slice a l c] = _ := hcs
    simp only [List.cons.injEq, and_true] at hcs
    simp only [Prod.mk.injEq] at hx
    simp only [if_true] at hz
    have hlz : len ≤ ss.length := by omega
    refine ⟨some a', ss.take len, cap, by rw [List.length_take, Nat.min_eq_left hlz]; simpa using hcs, fun j hj => ?_, ?_⟩
    · have hj' : j < len := by simp at hj; omega
      have hcl := hcell j (by omega)
      refine ⟨a', rfl, ?_, by rw [hcl]; simp [List.getD, hj']; rfl⟩
      have := block_lt hcl
      rwa [block_of_plus] at this
    · rw [hx.1]
      simp only [Rows.uptoBulk]
      rw [bulk_strs]
      omega
theorem many_bulk {d : DataW H} {n : Nat} (h : Many d n) : n ≤ Rows.uptoBulk d := by
  rcases h with ⟨_, rfl⟩ | ⟨el, sp, rfl, rfl⟩
  · omega
  · have := bulk_len el
    simp only [Rows.uptoBulk]
    omega
end
end Go.Proofs.YtiddnacmopfamaaDoor
