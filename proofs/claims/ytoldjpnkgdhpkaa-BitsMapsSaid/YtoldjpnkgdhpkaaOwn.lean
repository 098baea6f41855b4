/- Rows of numbers that a call makes itself: one number more. -/
import Derived.Test.YtoldjpnkgdhpkaaR1
import Derived.OwnWalk
import Derived.OneCell
import Derived.Laws.IdiomRangeMap
namespace Go.Proofs.Ytoldjpnkgdhpkaa
open Go.RowKit
set_option linter.unusedVariables false

/-- v is a slice of the call's own, in blocks from base on, with the numbers zs. -/
def Own (w : World) (base : Nat) (e : TypeId) (k : IntKind) (v : Value) (zs : List Int) : Prop := w.ownsRow base e 1 v zs.length (zs.map (Value.int k))

section
variable {w w' : World} {base : Nat} {e : TypeId} {k : IntKind} {v : Value} {zs : List Int}
theorem Own.nil (w : World) (base : Nat) (e : TypeId) (k : IntKind) : Own w base e k (.slice none 0 0) [] := ⟨by simp, .inl ⟨rfl, rfl⟩⟩
theorem Own.alloc (h : Own w base e k v zs) (o : Obj) : Own (w.alloc o) base e k v zs := World.ownsRow.alloc h o
theorem Own.of_eq {ys : List Int} (h : Own w base e k v zs) (he : zs = ys) : Own w base e k v ys := he ▸ h
theorem Own.dr (h : Own w base e k v zs) (hd : Dr w w') : Own w' base e k v zs := by obtain ⟨m, rfl⟩ := hd; exact h
theorem Own.block (h : Own w base e k v zs) {g : Nat} (hg : v.ownBlock = some g) : base ≤ g ∧ g < w.heap.size := by
  rcases h.2 with ⟨rfl, _⟩ | ⟨g', cap, cur, rfl, hb, hh, _⟩
  · simp [Value.ownBlock] at hg
  · have : g' = g := by simpa [Value.ownBlock] using hg
    subst this
    refine ⟨hb, ?_⟩
    rcases Nat.lt_or_ge g' w.heap.size with hlt | hge
    · exact hlt
    · rw [Array.getElem?_eq_none hge] at hh; cases hh
theorem Own.low {b : Nat} (h : Own w base e k v zs) (hb : b ≤ base) : Own w b e k v zs := by
  refine ⟨h.1, ?_⟩
  rcases h.2 with hn | ⟨g', cap, cur, hv, hb', rest⟩
  · exact .inl hn
  · exact .inr ⟨g', cap, cur, hv, by omega, rest⟩
theorem Own.below {B : Nat} (h : Own w base e k v zs) (hb : Below B w w') (hB : w.heap.size ≤ B) : Own w' base e k v zs := by
  refine ⟨h.1, ?_⟩
  rcases h.2 with hn | ⟨g', cap, cur, hv, hb', hh, rest⟩
  · exact .inl hn
  · refine .inr ⟨g', cap, cur, hv, hb', ?_, rest⟩
    have hlt : g' < w.heap.size := by
      rcases Nat.lt_or_ge g' w.heap.size with hlt | hge
      · exact hlt
      · rw [Array.getElem?_eq_none hge] at hh; cases hh
    rw [hb.block g' (by omega), hh]
theorem Own.out (h : Own w base e k v zs) : ∃ A c, v = .slice A zs.length c ∧ zs.length ≤ c ∧ c ≤ maxLen ∧ Rd w w.heap.size k A zs := by
  have h' := h
  rcases h.2 with ⟨rfl, hn⟩ | ⟨g', cap, cur, rfl, hb', hh, hnc, hcm, _⟩
  · exact ⟨none, 0, by rw [hn], by omega, by simp, fun h0 => by omega⟩
  · exact ⟨some ⟨g', 0, none⟩, cap, rfl, hnc, hcm, Rd.own h'⟩
end

theorem Below.of_alloc (w : World) (o : Obj) (B : Nat) (h : B ≤ w.heap.size) : Below B w (w.alloc o) := (Below.refl _ _).alloc h o

theorem new_cell (w : World) (v : Value) (t : TypeId) : (w.alloc (.cells #[v] t)).cell? ⟨w.heap.size, 0, none⟩ = some v := by
  exact cell_of_one (heap_alloc_new w _)
theorem size_alloc {B : Nat} {w : World} (h : B ≤ w.heap.size) (o : Obj) : B ≤ (w.alloc o).heap.size := by simp; omega

theorem info3 : (Try.prog.info? 3).map (fun i => (i.zero, i.size, i.bytes)) = some (some (.int .i64 0), 1, 8) := by kernel_rfl
theorem info5 : (Try.prog.info? 5).map (fun i => (i.zero, i.size, i.bytes)) = some (some (.int .u8 0), 1, 1) := by kernel_rfl

/-- out = append(out, z) of numbers of the kind int. -/
theorem app_int {w : World} {ops : Array Oper} {rest : List Oper} {o : Oper} {a : Act} {Q : Exit → Act → World → Prop} (hgd : o.guard = none) (s x : Operand)
    (ho : o.op = .call { callee := .builtin .append, args := #[s, x], argTypes := #[22, 22] })
    (base : Nat) (v : Value) (zs : List Int) (z : Int) (hs : a.eval s = v) (hown : Own w base 3 .i64 v zs)
    (ad : Addr) (c : Nat) (hx : a.eval x = .slice (some ad) 1 c) (hc : w.cell? ad = some (.int .i64 z)) (hlen : zs.length ≤ 1000000) (hbase : base ≤ w.heap.size)
    (h : ∀ v' w', Own w' base 3 .i64 v' (zs ++ [z]) → Below base w w' → wpList Try.prog ops Q rest (a.put o.dst v') w') : wpList Try.prog ops Q (o :: rest) a w := by
  obtain ⟨i0, hi0, hz0, hz1, hz2⟩ := info_parts info3
  refine wpList_append_own w hgd s x 22 ho base 3 i0 (.int .i64 0) 1 8 Try.underlying22 hi0 hz0 hz1 hz2 rfl (by decide) v zs.length _ hs hown ad 1 c [.int .i64 z] hx rfl ?_ ?_ (by simp only [maxLen]; omega) (by omega) hbase ?_
  · intro j u hu
    rcases j with _ | j
    · simp at hu; subst hu; simpa [Addr.add] using hc
    · simp at hu
  · intro u hu; simp at hu; subst hu; rfl
  · intro v' w' hown' hg _
    exact h v' w' (by unfold Own; simpa using hown') ((Below.refl _ _).grown hg hbase fun g hg' => (hown.block hg').1)

/-- Blocks that are known whole and are not v's stay. -/
def Far (w w' : World) (v : Value) : Prop := ∀ (g : Nat) (t : TypeId) (cs : Array Value), w.heap[g]? = some (.cells cs t (0, 0)) → v.ownBlock ≠ some g → w'.heap[g]? = some (.cells cs t (0, 0))
theorem Far.of_grown {w w' : World} {o : Obj} {v : Value} (h : (w.alloc o).grownBy w' v.ownBlock) : Far w w' v := fun g t cs hg hne => by
  have hlt : g < w.heap.size := lt_of_block hg
  rw [h.block g (by simp; omega) (fun e => hne e.symm), heap_alloc_old w o hlt, hg]

/-- out = append(out, z) of bytes. -/
theorem app_byte {w : World} {ops : Array Oper} {rest : List Oper} {o : Oper} {a : Act} {Q : Exit → Act → World → Prop} (hgd : o.guard = none) (s x : Operand)
    (ho : o.op = .call { callee := .builtin .append, args := #[s, x], argTypes := #[52, 52] })
    (base : Nat) (v : Value) (zs : List Int) (z : Int) (hs : a.eval s = v) (hown : Own w base 5 .u8 v zs)
    (ad : Addr) (c : Nat) (hx : a.eval x = .slice (some ad) 1 c) (hc : w.cell? ad = some (.int .u8 z)) (hlen : zs.length ≤ 1000000) (hbase : base ≤ w.heap.size)
    (h : ∀ v' w', Own w' base 5 .u8 v' (zs ++ [z]) → Below base w w' → w.grownBy w' v.ownBlock → wpList Try.prog ops Q rest (a.put o.dst v') w') : wpList Try.prog ops Q (o :: rest) a w := by
  obtain ⟨i0, hi0, hz0, hz1, hz2⟩ := info_parts info5
  refine wpList_append_own w hgd s x 52 ho base 5 i0 (.int .u8 0) 1 1 Try.underlying52 hi0 hz0 hz1 hz2 rfl (by decide) v zs.length _ hs hown ad 1 c [.int .u8 z] hx rfl ?_ ?_ (by simp only [maxLen]; omega) (by omega) hbase ?_
  · intro j u hu
    rcases j with _ | j
    · simp at hu; subst hu; simpa [Addr.add] using hc
    · simp at hu
  · intro u hu; simp at hu; subst hu; rfl
  · intro v' w' hown' hg _
    exact h v' w' (by unfold Own; simpa using hown') ((Below.refl _ _).grown hg hbase fun g hg' => (hown.block hg').1) hg

theorem take_snoc (zs : List Int) {k : Nat} (h : k < zs.length) : zs.take (k + 1) = zs.take k ++ [zs.getD k 0] := by
  rw [List.take_succ_eq_append_getElem h, List.getD, List.getElem?_eq_getElem h]; rfl
theorem filter_yes (p : Int → Bool) (zs : List Int) {k : Nat} {x : Int} (h : k < zs.length) (hx : zs.getD k 0 = x) (hp : p x = true) : (zs.take (k + 1)).filter p = (zs.take k).filter p ++ [x] := by
  rw [take_snoc zs h, hx, List.filter_append]; simp [hp]
theorem filter_no (p : Int → Bool) (zs : List Int) {k : Nat} {x : Int} (h : k < zs.length) (hx : zs.getD k 0 = x) (hp : p x = false) : (zs.take (k + 1)).filter p = (zs.take k).filter p := by
  rw [take_snoc zs h, hx, List.filter_append]; simp [hp]
theorem filter_take_len (p : Int → Bool) (zs : List Int) (k : Nat) : ((zs.take k).filter p).length ≤ zs.length :=
  Nat.le_trans (List.length_filter_le _ _) (by simp; omega)
end Go.Proofs.Ytoldjpnkgdhpkaa
