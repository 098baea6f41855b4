/- Upper, Lower, Weights of the program. -/
import Derived.Test.YtiddnacmopfamaaDoorPgR
namespace Go.Proofs.YtiddnacmopfamaaDoor
open Go.RowKit
set_option linter.unusedVariables false
set_option linter.unusedSimpArgs false

/-- A text with an error's number. -/
def TRes (w : World) (t : ByteArray) (n : Int) (e : Ending) (w' : World) : Prop := e = .returned (.tuple #[.string t, .int .i64 n]) ∧ Below w.heap.size w w'
theorem wrong_zero {p c : Int} {ss : List ByteArray} (h : wrongN p c ss = 0) : 0 ≤ p ∧ p < 3 ∧ (c = 0 ∨ c = 1) ∧ ∀ s ∈ ss, s.size ≤ 2048 := by
  unfold wrongN at h
  split at h
  · cases h
  · split at h
    · rename_i h1 h2
      refine ⟨h2.1, h2.2.1, h2.2.2, fun s hs => ?_⟩
      rw [Bool.not_eq_true, List.any_eq_false] at h1
      have := h1 s hs
      simpa using this
    · cases h
theorem text_cell (w : World) (s : ByteArray) (n : Nat) (hn : n = w.heap.size) : ∀ j, j < [s].length → (w.alloc (.cells #[.string s] 9)).cell? ((⟨n, 0, none⟩ : Addr).add j) = some (.string ([s].getD j ByteArray.empty)) := by
  intro j hj
  have h0 : j = 0 := by simpa using hj
  subst h0 hn
  simp [Addr.add]
def upT (s : ByteArray) (p : Int) : ByteArray := if wrongN p 0 [s] = 0 then mapS (upN p.toNat) s else ⟨#[]⟩
def lowT (s : ByteArray) (p : Int) : ByteArray := if wrongN p 0 [s] = 0 then mapS (lowN p.toNat) s else ⟨#[]⟩
def weiT (s : ByteArray) (p c : Int) : ByteArray := if wrongN p c [s] = 0 then mapS (weiN p.toNat c.toNat) s else ⟨#[]⟩
theorem wei_lt {p c b : Nat} (hb : b < 256) (hp : p < 3) (hc : c < 2) : weiN p c b < 256 := by
  rcases (show c = 0 ∨ c = 1 by omega) with rfl | rfl
  · simp [weiN]; exact hb
  · exact (wei_tab ⟨p, hp⟩ ⟨b, hb⟩).2
theorem cell_new1 (w : World) (v : Value) (t : TypeId) (o : Obj) : ((w.alloc (.cells #[v] t)).alloc o).cell? ⟨w.heap.size, 0, none⟩ = some v := by
  rw [World.cell?_alloc_lt _ _ _ (by simp)]; simp
theorem cell_new2 (w : World) (v : Value) (t : TypeId) : (w.alloc (.cells #[v] t)).cell? ⟨w.heap.size, 0, none⟩ = some v := by simp

end Go.Proofs.YtiddnacmopfamaaDoor
