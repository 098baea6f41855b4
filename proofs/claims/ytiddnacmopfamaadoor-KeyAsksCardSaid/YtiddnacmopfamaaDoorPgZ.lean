/- Proper of the program. -/
import Derived.Test.YtiddnacmopfamaaDoorPgL
namespace Go.Proofs.YtiddnacmopfamaaDoor
open Go.RowKit
set_option linter.unusedVariables false
set_option linter.unusedSimpArgs false

/-- All old blocks below B but g are as they were. -/
structure But (B g : Nat) (w w' : World) : Prop where
  os : w'.os = w.os
  tape : w'.tape = w.tape
  output : w'.output = w.output
  size : w.heap.size ≤ w'.heap.size
  block : ∀ k, k < B → k ≠ g → w'.heap[k]? = w.heap[k]?
theorem But.refl (B g : Nat) (w : World) : But B g w w := ⟨rfl, rfl, rfl, Nat.le_refl _, fun _ _ _ => rfl⟩
theorem But.trans {B g : Nat} {a b c : World} (h : But B g a b) (k : But B g b c) : But B g a c :=
  ⟨k.os.trans h.os, k.tape.trans h.tape, k.output.trans h.output, Nat.le_trans h.size k.size, fun i hi hg => (k.block i hi hg).trans (h.block i hi hg)⟩
theorem But.mono {B B' g : Nat} {w w' : World} (h : But B g w w') (hB : B' ≤ B) : But B' g w w' := ⟨h.os, h.tape, h.output, h.size, fun k hk hg => h.block k (by omega) hg⟩
theorem But.of {B g : Nat} {w w' : World} (h : Below B w w') : But B g w w' := ⟨h.os, h.tape, h.output, h.size, fun k hk _ => h.block k hk⟩
theorem But.setG {B g j : Nat} {a w : World} (h : But B g a w) (u : Value) : But B g a (w.setCell ⟨g, j, none⟩ u) :=
  ⟨h.os, h.tape, h.output, by have := h.size; simpa using this, fun k hk hg => (heap_setCell_other w ⟨g, j, none⟩ k u hg).trans (h.block k hk hg)⟩
theorem But.setN {B g n j : Nat} {a w : World} (h : But B g a w) (hn : B ≤ n) (u : Value) : But B g a (w.setCell ⟨n, j, none⟩ u) :=
  ⟨h.os, h.tape, h.output, by have := h.size; simpa using this, fun k hk hg => (heap_setCell_other w ⟨n, j, none⟩ k u (by simp only; omega)).trans (h.block k hk hg)⟩
theorem But.cell {B g : Nat} {w w' : World} (h : But B g w w') {n j : Nat} (hn : n < B) (hg : n ≠ g) : w'.cell? ⟨n, j, none⟩ = w.cell? ⟨n, j, none⟩ := World.cell?_of_block (w := w) (h.block n hn hg)
theorem But.frozen {B g : Nat} {w w' : World} (h : But B g w w') {n j : Nat} (hn : n < B) (hg : n ≠ g) : w'.frozen? ⟨n, j, none⟩ = w.frozen? ⟨n, j, none⟩ := World.frozen?_of_block (w := w) (h.block n hn hg)
theorem But.below {B g : Nat} {w w' : World} (h : But B g w w') {B' : Nat} (h1 : B' ≤ B) (h2 : B' ≤ g) : Below B' w w' := ⟨h.os, h.tape, h.output, h.size, fun k hk => h.block k (by omega) (by omega)⟩
theorem Tabs.but {w w' : World} {B g : Nat} (h : Tabs w) (hb : But B g w w') (hB : w.heap.size ≤ B) (hg : 5 ≤ g) : Tabs w' := by
  have hp := h.pos
  exact ⟨fun i hi => (hb.cell (by omega) (by omega)).trans (h.cs i hi), fun i hi => (hb.cell (by omega) (by omega)).trans (h.ac i hi), Nat.le_trans hp hb.size⟩
theorem BRow.but {w w' : World} {g B gi : Nat} {bs : List UInt8} (h : BRow w g bs) (hb : But B gi w w') (hg : g < B) (hne : g ≠ gi) : BRow w' g bs :=
  ⟨by have := h.1; have := hb.size; omega, fun j hj => ⟨(hb.cell hg hne).trans (h.2 j hj).1, (hb.frozen hg hne).trans (h.2 j hj).2⟩⟩

def propN (p : Nat) (iw : Bool) (b : Nat) : Nat := if iw then lowN p b else upN p b
theorem prop_lt {p b : Nat} {iw : Bool} (hb : b < 256) (hp : p < 3) : propN p iw b < 256 := by
  unfold propN; split
  · exact low_lt hb hp
  · exact up_lt hb hp

/-- Whether the byte before is a letter. -/
def befB (p : Nat) (l : List UInt8) (k : Nat) : Bool := decide (0 < k) && letN p (l.getD (k - 1) 0).toNat
def pAt (p : Nat) (l : List UInt8) (k : Nat) : UInt8 := UInt8.ofNat (propN p (befB p l k) (l.getD k 0).toNat)
def propS (p : Nat) (s : ByteArray) : ByteArray := ⟨((List.range s.data.toList.length).map (pAt p s.data.toList)).toArray⟩
theorem partG_len (G : Nat → UInt8) (l : List UInt8) (k : Nat) (hk : k ≤ l.length) : ((List.range k).map G ++ l.drop k).length = l.length := by simp; omega
theorem partG_set (G : Nat → UInt8) (l : List UInt8) {k : Nat} (hk : k < l.length) : ((List.range k).map G ++ l.drop k).set k (G k) = (List.range (k + 1)).map G ++ l.drop (k + 1) := by
  have h1 : ((List.range k).map G).length = k := by simp
  rw [List.set_append_right _ _ (by omega), h1, Nat.sub_self, List.drop_eq_getElem_cons hk, List.set_cons_zero, List.range_succ, List.map_append, List.append_assoc]
  rfl
theorem partG_at (G : Nat → UInt8) (l : List UInt8) {k : Nat} (hk : k < l.length) : ((List.range k).map G ++ l.drop k).getD k 0 = l.getD k 0 := by
  have h1 : ((List.range k).map G).length = k := by simp
  rw [List.getD_eq_getElem?_getD, List.getElem?_append_right (by omega), h1, Nat.sub_self]
  simp [List.getD, hk]
end Go.Proofs.YtiddnacmopfamaaDoor
