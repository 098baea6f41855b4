/- A block of the call's own whose cells are all known. -/
import Derived.Test.YtoldjpnkgdhpkaaV
namespace Go.Proofs.Ytoldjpnkgdhpkaa
open Go.RowKit
set_option linter.unusedVariables false

def Bk (w : World) (g : Nat) (t : TypeId) (cs : Array Value) : Prop := w.heap[g]? = some (.cells cs t (0, 0))
section
variable {w w' : World} {g : Nat} {t : TypeId} {cs : Array Value}
theorem Bk.lt (h : Bk w g t cs) : g < w.heap.size := lt_of_block h
theorem Bk.cell (h : Bk w g t cs) (i : Nat) : w.cell? ⟨g, i, none⟩ = cs[i]? := cell_of_row w g i cs t (0, 0) h
theorem Bk.free (h : Bk w g t cs) (i : Nat) : w.frozen? ⟨g, i, none⟩ = false := by
  unfold Bk at h; simp [World.frozen?, h]
theorem Bk.new (w : World) (t : TypeId) (cs : Array Value) : Bk (w.alloc (.cells cs t)) w.heap.size t cs := heap_alloc_new w _
theorem Bk.dr (h : Bk w g t cs) (hd : Dr w w') : Bk w' g t cs := by obtain ⟨m, rfl⟩ := hd; exact h
theorem Bk.alloc (h : Bk w g t cs) (o : Obj) : Bk (w.alloc o) g t cs := (heap_alloc_old w o h.lt).trans h
theorem Bk.below {B : Nat} (h : Bk w g t cs) (hb : Below B w w') (hg : g < B) : Bk w' g t cs := (hb.block g hg).trans h
end
theorem two_cells {w : World} {g : Nat} {t : TypeId} {x y : Value} (h : Bk w g t #[x, y]) : w.cell? ⟨g, 0, none⟩ = some x ∧ w.cell? ⟨g, 1, none⟩ = some y ∧ w.frozen? ⟨g, 0, none⟩ = false ∧ w.frozen? ⟨g, 1, none⟩ = false :=
  ⟨h.cell 0, h.cell 1, h.free 0, h.free 1⟩
theorem Lk.drew {w : World} {B : Nat} {A : Option Addr} {zs : List Int} {c : Nat} (h : Lk w B A zs c) : Lk w.drew B A zs c := ⟨h.rd, h.len, h.cap, h.max, h.i64⟩
theorem Own.setCell {w : World} {base : Nat} {e : TypeId} {k : IntKind} {v : Value} {zs : List Int} (h : Own w base e k v zs) {p : Addr} (hp : p.block < base) (u : Value) : Own (w.setCell p u) base e k v zs := by
  refine ⟨h.1, ?_⟩
  rcases h.2 with hn | ⟨g', cap, cur, hv, hb', hh, rest⟩
  · exact .inl hn
  · exact .inr ⟨g', cap, cur, hv, hb', (Below.heap_setCell w p u g' (by omega)).trans hh, rest⟩
theorem far2 {w : World} {b b' i i' j : Nat} {u u' : Value} (h : b' ≠ b) : ((w.setCell ⟨b, i, none⟩ u).setCell ⟨b, i', none⟩ u').cell? ⟨b', j, none⟩ = w.cell? ⟨b', j, none⟩ := by
  rw [World.cell?_setCell_other _ _ _ _ (fun e => h (by injection e with e1 _ _; exact e1.symm)), World.cell?_setCell_other _ _ _ _ (fun e => h (by injection e with e1 _ _; exact e1.symm))]
end Go.Proofs.Ytoldjpnkgdhpkaa
