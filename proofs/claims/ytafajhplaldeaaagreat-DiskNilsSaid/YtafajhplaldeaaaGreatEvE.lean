/- Loads, stores, new rows. -/
import Derived.Test.YtafajhplaldeaaaGreatEvD
import Derived.Laws.Cells
set_option linter.unusedVariables false
set_option linter.unusedSimpArgs false
namespace Go.Ev
open Go

/-! ### types -/
theorem run_und {t : TypeId} {d : TypeDesc} (h : PP.underlying t = some d) (w : World) : (underlying t).run PP w = .ok d w := by
  simp [underlying, h]
theorem run_info {t : TypeId} {i : TypeInfo} (h : PP.info? t = some i) (w : World) : (typeInfo t).run PP w = .ok i w := by
  simp [typeInfo, h]
theorem run_size {t : TypeId} {i : TypeInfo} (h : PP.info? t = some i) (w : World) : (sizeOf t).run PP w = .ok i.size w := by
  simp [sizeOf, run_info h]
theorem run_zero {t : TypeId} {i : TypeInfo} {z : Value} (h : PP.info? t = some i) (hz : i.zero = some z) (w : World) : (zeroValue t).run PP w = .ok z w := by
  simp [zeroValue, run_info h, hz]
theorem run_agg {t : TypeId} {d : TypeDesc} (h : PP.underlying t = some d) (w : World) : (isAgg t).run PP w = .ok (isAggD d) w := by
  simp only [isAgg, Sem.run_bind, run_und h, Result.andThen_ok]
  cases d <;> rfl

theorem descV_ok {β : Type} {t : TypeId} {k : TypeDesc → R β} {b : β} : descV t k = .ok b ↔ ∃ d, PP.underlying t = some d ∧ k d = .ok b := R.of_ok
theorem sizeV_ok {β : Type} {t : TypeId} {k : Nat → R β} {b : β} : sizeV t k = .ok b ↔ ∃ i, PP.info? t = some i ∧ k i.size = .ok b := R.of_ok
theorem zeroV_ok {β : Type} {t : TypeId} {k : VV → R β} {b : β} : zeroV t k = .ok b ↔ ∃ i z x, PP.info? t = some i ∧ i.zero = some z ∧ abst 20 z = some x ∧ k x = .ok b := by
  unfold zeroV
  rw [R.of_ok]
  constructor
  · rintro ⟨i, hi, h⟩
    rw [R.of_ok] at h
    obtain ⟨z, hz, h⟩ := h
    rw [R.of_ok] at h
    obtain ⟨x, hx, h⟩ := h
    exact ⟨i, z, x, hi, hz, hx, h⟩
  · rintro ⟨i, z, x, hi, hz, hx, h⟩
    refine ⟨i, hi, ?_⟩
    rw [R.of_ok]
    refine ⟨z, hz, ?_⟩
    rw [R.of_ok]
    exact ⟨x, hx, h⟩
theorem elemV_ok {β : Type} {t : TypeId} {k : TypeId → R β} {b : β} : elemV t k = .ok b ↔ ∃ e, PP.underlying t = some (.slice e) ∧ k e = .ok b := by
  unfold elemV
  rw [descV_ok]
  constructor
  · rintro ⟨d, hd, h⟩
    cases d <;> simp at h
    exact ⟨_, hd, h⟩
  · rintro ⟨e, he, h⟩
    exact ⟨_, he, h⟩

/-! ### addresses, cells -/
theorem add_none (b o n : Nat) : (⟨b, o, none⟩ : Addr).add n = ⟨b, o + n, none⟩ := by
  unfold Addr.add
  split
  · rename_i h; subst h; rfl
  · rfl

theorem Value.cells_one {v : Value} (h : v.oneCell' = true) : v.cells = #[v] := by cases v <;> simp [Value.oneCell', Value.cells] at *

section
variable (E : Nat → Value)

theorem cell_row {ρ : Rho} {w : World} {b v : Nat} {r : Row} {p : Pl} (h : RowOk E ρ w b v r) (hp : ρ b v = some p) {i : Nat} {x : VV} (hx : r.c[i]? = some x) :
    ∃ y, conc E ρ x = some y ∧ w.cell? ⟨p.blk, p.base + i, none⟩ = some y := by
  obtain ⟨q, C, lo, hi, h1, h2, h3, h4, h5, h6, h7, h8⟩ := h
  rw [h1] at hp; cases hp
  obtain ⟨y, hy, hc⟩ := h6 i x hx
  exact ⟨y, hy, by simp [World.cell?, h3, hc]⟩

theorem load_cells {ρ : Rho} {w : World} {b v o n : Nat} {r : Row} {p : Pl} (h : RowOk E ρ w b v r) (hp : ρ b v = some p) (hn : n ≤ (r.c.drop o).length) :
    ∃ xs, concs E ρ ((r.c.drop o).take n) = some xs ∧ (loadCells ⟨p.blk, p.base + o, none⟩ n).run PP w = .ok xs.toArray w := by
  have hs : ∀ (i : Nat) x, ((r.c.drop o).take n)[i]? = some x → ∃ y, conc E ρ x = some y := fun i x hx => by
    rw [List.getElem?_take] at hx
    split at hx
    · rw [List.getElem?_drop] at hx
      obtain ⟨y, hy, _⟩ := cell_row E h hp hx
      exact ⟨y, hy⟩
    · cases hx
  obtain ⟨xs, hxs⟩ := concs_some E _ hs
  have hl := concs_length E hxs
  rw [List.length_take, Nat.min_eq_left hn] at hl
  refine ⟨xs, hxs, ?_⟩
  have := run_loadCells_list (P := PP) (w := w) ⟨p.blk, p.base + o, none⟩ xs (fun j y hy => ?_)
  · rw [hl] at this; exact this
  · have hj : j < n := by
      rw [← hl]
      exact (List.getElem?_eq_some_iff.1 hy).1
    have hj2 : j < ((r.c.drop o).take n).length := by rw [List.length_take, Nat.min_eq_left hn]; exact hj
    obtain ⟨z, hz, hz2⟩ := concs_get E hxs j _ (List.getElem?_eq_getElem hj2)
    rw [hy] at hz2; cases hz2
    have hx : r.c[o + j]? = some (((r.c.drop o).take n)[j]) := by
      rw [← List.getElem?_eq_getElem hj2, List.getElem?_take, if_pos hj, List.getElem?_drop]
    obtain ⟨u, hu, hc⟩ := cell_row E h hp hx
    rw [hz] at hu; cases hu
    rw [add_none, Nat.add_assoc]
    exact hc

end

/-- the cells from s on are xs -/
def wrArr (C : Array Value) (s : Nat) (xs : List Value) : Array Value := (C.toList.take s ++ xs ++ C.toList.drop (s + xs.length)).toArray

theorem wrArr_nil (C : Array Value) (s : Nat) : wrArr C s [] = C := by
  unfold wrArr; simp
theorem wrArr_size {C : Array Value} {s : Nat} {xs : List Value} (h : s + xs.length ≤ C.size) : (wrArr C s xs).size = C.size := by
  unfold wrArr; simp; omega
theorem wrArr_get {C : Array Value} {s : Nat} {xs : List Value} (h : s + xs.length ≤ C.size) (j : Nat) :
    (wrArr C s xs)[j]? = if j < s then C[j]? else if j < s + xs.length then xs[j - s]? else C[j]? := by
  unfold wrArr
  rw [List.getElem?_toArray, List.append_assoc]
  have hl : (C.toList.take s).length = s := by rw [List.length_take, Array.length_toList]; omega
  by_cases h1 : j < s
  · rw [if_pos h1, List.getElem?_append_left (by omega), List.getElem?_take, if_pos h1, Array.getElem?_toList]
  · rw [if_neg h1, List.getElem?_append_right (by omega), hl]
    by_cases h2 : j < s + xs.length
    · rw [if_pos h2, List.getElem?_append_left (by omega)]
    · rw [if_neg h2, List.getElem?_append_right (by omega), List.getElem?_drop, Array.getElem?_toList]
      congr 1; omega

theorem setIf_eq {α : Type} (a : Array α) (i : Nat) (x : α) (h : a[i]? = some x) : a.setIfInBounds i x = a := by
  apply Array.ext'
  rw [Array.toList_setIfInBounds]
  apply List.ext_getElem?
  intro j
  rw [List.getElem?_set]
  split
  · rename_i e
    subst e
    have hi : i < a.size := (Array.getElem?_eq_some_iff.1 h).1
    rw [if_pos (by simpa using hi), Array.getElem?_toList, h]
  · rfl

theorem setIf_setIf {α : Type} (a : Array α) (i : Nat) (x y : α) : (a.setIfInBounds i x).setIfInBounds i y = a.setIfInBounds i y := by
  apply Array.ext'
  simp [Array.toList_setIfInBounds]

theorem setCell_put {w : World} {blk o : Nat} {C : Array Value} {el : TypeId} {fz : Nat × Nat} (h : w.heap[blk]? = some (.cells C el fz)) (v : Value) :
    w.setCell ⟨blk, o, none⟩ v = w.putObj blk (.cells (C.setIfInBounds o v) el fz) := by
  unfold World.setCell World.putObj
  congr 1
  apply Array.ext'
  apply List.ext_getElem?
  intro j
  rw [Array.getElem?_toList, Array.getElem?_toList, Array.getElem?_modify]
  by_cases e : blk = j
  · subst e
    have hi : blk < w.heap.size := (Array.getElem?_eq_some_iff.1 h).1
    rw [if_pos rfl, h]
    simp [hi]
  · rw [if_neg e, Array.getElem?_setIfInBounds_ne e]

theorem run_store_row (blk o : Nat) (el : TypeId) (fz : Nat × Nat) : ∀ (xs : List Value) (i : Nat) (C : Array Value) (w : World), w.heap[blk]? = some (.cells C el fz) → o + i + xs.length ≤ C.size →
    (∀ x ∈ xs, x.oneCell' = true) → (∀ j, o + i ≤ j → j < o + i + xs.length → ¬ (fz.1 ≤ j ∧ j < fz.2)) →
    (storeCells ⟨blk, o, none⟩ xs i).run PP w = .ok () (w.putObj blk (.cells (wrArr C (o + i) xs) el fz))
  | [], i, C, w, h, _, _, _ => by
    simp only [storeCells, Sem.run_pure, wrArr_nil]
    congr 1
    unfold World.putObj
    rw [setIf_eq _ _ _ h]
  | x :: xs, i, C, w, h, hn, h1, hf => by
    have hi : blk < w.heap.size := (Array.getElem?_eq_some_iff.1 h).1
    simp only [List.length_cons] at hn hf
    have hc : w.cell? ⟨blk, o + i, none⟩ = some C[o + i] := by simp [World.cell?, h]
    have hfr : w.frozen? ⟨blk, o + i, none⟩ = false := by
      simp only [World.frozen?, h]
      have := hf (o + i) (by omega) (by omega)
      simpa using this
    simp only [storeCells, Sem.run_bind, add_none]
    rw [run_store _ _ _ _ _ (h1 x (by simp)), hc, hfr]
    simp only [Bool.false_eq_true, if_false, Result.andThen_ok]
    rw [setCell_put h]
    have h' : (w.putObj blk (.cells (C.setIfInBounds (o + i) x) el fz)).heap[blk]? = some (.cells (C.setIfInBounds (o + i) x) el fz) := World.putObj_heap_same hi
    rw [run_store_row blk o el fz xs (i + 1) _ _ h' (by simp; omega) (fun y hy => h1 y (by simp [hy])) (fun j hj1 hj2 => hf j (by omega) (by omega))]
    congr 1
    unfold World.putObj
    simp only [setIf_setIf]
    congr 3
    apply Array.ext'
    apply List.ext_getElem?
    intro j
    rw [Array.getElem?_toList, Array.getElem?_toList, wrArr_get (by simp; omega), wrArr_get (by simp; omega)]
    simp only [List.length_cons]
    rw [Array.getElem?_setIfInBounds]
    by_cases e1 : j < o + i
    · rw [if_pos (by omega), if_pos e1, if_neg (by omega)]
    · by_cases e2 : j = o + i
      · subst e2
        have a1 : o + i < o + (i + 1) := by omega
        have a3 : o + i < o + i + (xs.length + 1) := by omega
        have a4 : o + i < C.size := by omega
        simp [a1, a3, a4]
      · rw [if_neg (by omega), if_neg e1]
        by_cases e3 : j < o + (i + 1) + xs.length
        · rw [if_pos e3, if_pos (by omega)]
          rw [show j - (o + i) = (j - (o + (i + 1))) + 1 by omega]
          simp
        · rw [if_neg e3, if_neg (by omega), if_neg (by omega)]

end Go.Ev
