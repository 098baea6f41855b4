/- find, at any entries. -/
import Derived.Test.YtkjbkiiddnkmaaaMmG
namespace Go.Proofs.Ytkjbkiiddnkmaaa
open Go.RowKit Go.Shelf
set_option linter.unusedVariables false
set_option linter.unusedSimpArgs false
set_option maxRecDepth 100000
attribute [local go_sem] Oper.semAt_some

theorem all_stops (F : Fence) (n : Nat) (hf : F.fn 69) (hro : F.round = none) (hn : 1 ≤ n) (Bs n₀ m g b cap : Nat) (es : List E3) (hfew : Few es) (hle : es.length ≤ 5000) (w : World) (hb : b < n₀) (hn₀ : n₀ ≤ w.heap.size) (hm : m ≤ w.heap.size) (hB : Bs < w.heap.size) (hg : g < w.heap.size) (hBs : w.cell? ⟨Bs, 0, none⟩ = some (.pointer (some ⟨g, 2, none⟩))) (hc : w.cell? ⟨g, 3, none⟩ = some (.slice (some ⟨b, 0, none⟩) es.length cap)) (he : Es w b es) :
    SeqStopsK F n Try.prog 69 #[.pointer (some ⟨Bs, 0, none⟩)] (enE es) (KC n₀ m) (fun ys => ys = fstE es.length es.length) (fun pre => ∃ k, k < es.length ∧ pre = fstE es.length (k + 1)) es.length w := fun l J Jx W hW hJ _ hY h0 =>
  all1_any F n hf hro hn l Bs n₀ m g b cap es hb hfew hle J Jx (fun k W' o hj => hJ _ _ _ none hj (World.grownBy_alloc W' o none) (fun r e => by cases e)) hY W (Nat.le_trans hn₀ hW.size) (Nat.le_trans hm hW.size) ((hW.cell (p := ⟨Bs, 0, none⟩) hB).trans hBs) ((hW.cell (p := ⟨g, 3, none⟩) hg).trans hc) (he.below hW (by omega)) h0

def matchE (es : List E3) (blk : Int) (x : Fin es.length) : Bool := (atE es x.1 == blk) && !es[x.1].2.1
def FindP (es : List E3) (blk : Int) (i : Int) (ok : Bool) : Prop :=
  (ok = true ∧ ∃ x : Fin es.length, i = (x.1 : Int) ∧ matchE es blk x = true) ∨ (ok = false ∧ i = 0 ∧ ∀ x : Fin es.length, matchE es blk x = false)
def FindRes (es : List E3) (blk : Int) (w : World) (e : Ending) (w' : World) : Prop :=
  ∃ i ok, e = .returned (.tuple #[.int .i64 i, .bool ok]) ∧ FindP es blk i ok ∧ Below w.heap.size w w'

set_option maxHeartbeats 4000000 in
theorem find_any (g b cap : Nat) (es : List E3) (blk : Int) (w : World) (hfew : Few es) (hle : es.length ≤ 5000) (hg : g < w.heap.size) (hb : b < w.heap.size) (hc : w.cell? ⟨g, 3, none⟩ = some (.slice (some ⟨b, 0, none⟩) es.length cap)) (he : Es w b es) :
    Calls Try.prog 56 #[.pointer (some ⟨g, 2, none⟩), .int .i64 blk] w (FindRes es blk w) := by
  have C2 := Lib.hid (fun (a : Addr) W => callsIn_wide.1 (all_in Fence.wide 9 trivial rfl a W))
  refine (callsIn_wide (n := 9)).1 ?_
  refine callsIn_of_wp_marks Try.func56 rfl trivial ?_ rfl
  refine wpIn_wide.2 ?_
  simp only [Try.ntmps56, List.size_toArray, List.length_cons, List.length_nil, Nat.reduceAdd, Nat.reduceSub, Array.replicate_succ, Array.replicate_zero, List.push_toArray, List.append_toArray, List.nil_append, List.cons_append]
  go_wp2_with fail
  refine (C2.out _ _).mono ?_
  rintro e w' ⟨rfl, rfl⟩
  go_wp2_with fail
  generalize hX : World.alloc _ _ = X
  have hXs : X.heap.size = w.heap.size + 5 := by rw [← hX]; simp
  have hX5 : w.heap.size + 5 ≤ X.heap.size := by omega
  have hbX : Below w.heap.size w X := by
    rw [← hX]
    exact (((((Below.refl _ _).alloc (Nat.le_refl _) _).alloc (by simp) _).alloc (by simp; omega) _).alloc (by simp; omega) _).alloc (by simp; omega) _
  have x0 : X.cell? ⟨w.heap.size, 0, none⟩ = some (.pointer (some ⟨g, 2, none⟩)) := by rw [← hX]; simp [go_sem]
  have x1 : X.cell? ⟨w.heap.size + 1, 0, none⟩ = some (.int .i64 blk) := by rw [← hX]; simp [go_sem]
  have x2 : X.cell? ⟨w.heap.size + 1 + 1, 0, none⟩ = some (.int .i64 0) := by rw [← hX]; simp [go_sem]
  have x3 : X.cell? ⟨w.heap.size + 1 + 1 + 1, 0, none⟩ = some (.bool false) := by rw [← hX]; simp [go_sem]
  have x4 : X.cell? ⟨w.heap.size + 1 + 1 + 1 + 1, 0, none⟩ = some (.pointer (some ⟨g, 2, none⟩)) := by rw [← hX]; simp [go_sem]
  have y2 : X.frozen? ⟨w.heap.size + 1 + 1, 0, none⟩ = false := by rw [← hX]; simp [go_sem]
  have y3 : X.frozen? ⟨w.heap.size + 1 + 1 + 1, 0, none⟩ = false := by rw [← hX]; simp [go_sem]
  have hcX := (hbX.cell (p := ⟨g, 3, none⟩) hg).trans hc
  have heX := he.below hbX hb
  clear hX
  refine wpIn_wide (n := 9).1 ?_
  refine wpIn_rangeFunc_ownF rfl (by omega) (gf := 69) (lb := #[.pointer (some ⟨w.heap.size + 1 + 1 + 1 + 1, 0, none⟩)]) rfl trivial (enters_of Try.func69 (by kernel_rfl) rfl)
    (all_stops Fence.wide 8 trivial rfl (by omega) (w.heap.size + 1 + 1 + 1 + 1) w.heap.size X.heap.size g b cap es hfew hle X hb (by omega) (Nat.le_refl _) (by omega) (by omega) x4 hcX heX) KC.t (fun W l o o' => KC.b (by omega) W l o o') (Below.refl _ _) (fun _ => rfl)
    (fun pre W => ((∀ y ∈ pre, matchE es blk y = false) ∧ W.cell? ⟨w.heap.size, 0, none⟩ = some (.pointer (some ⟨g, 2, none⟩)) ∧ W.cell? ⟨w.heap.size + 1, 0, none⟩ = some (.int .i64 blk) ∧ W.cell? ⟨w.heap.size + 1 + 1, 0, none⟩ = some (.int .i64 0) ∧ W.cell? ⟨w.heap.size + 1 + 1 + 1, 0, none⟩ = some (.bool false) ∧ W.frozen? ⟨w.heap.size + 1 + 1, 0, none⟩ = false ∧ W.frozen? ⟨w.heap.size + 1 + 1 + 1, 0, none⟩ = false) ∧ Below w.heap.size X W)
    (fun c pre W => (c = .ret ∧ ∃ x : Fin es.length, matchE es blk x = true ∧ W.cell? ⟨w.heap.size + 1 + 1, 0, none⟩ = some (.int .i64 x.1) ∧ W.cell? ⟨w.heap.size + 1 + 1 + 1, 0, none⟩ = some (.bool true)) ∧ Below w.heap.size X W)
    (OwnFrom.and (Own.from (fun s A B row hs hg hr => ⟨hs.1, cell_kept hs.2.1 hg hr, cell_kept hs.2.2.1 hg hr, cell_kept hs.2.2.2.1 hg hr, cell_kept hs.2.2.2.2.1 hg hr, (frozen_kept hs.2.2.2.1 hg hr).trans hs.2.2.2.2.2.1, (frozen_kept hs.2.2.2.2.1 hg hr).trans hs.2.2.2.2.2.2⟩) _) (ownFrom_below (by omega) (by omega)))
    (fun c => OwnFrom.and (Own.from (fun s A B row hs hg hr => ⟨hs.1, hs.2.elim fun x hx => ⟨x, hx.1, cell_kept hx.2.1 hg hr, cell_kept hx.2.2 hg hr⟩⟩) _) (ownFrom_below (by omega) (by omega)))
    ⟨⟨by simp, x0, x1, x2, x3, y2, y3⟩, Below.refl _ _⟩
    (fun x => { tmps := #[Value.pointer (some { block := g, off := 2 }), Value.int IntKind.i64 blk, Value.pointer (some { block := w.heap.size, off := 0 }), Value.pointer (some { block := w.heap.size + 1, off := 0 }), Value.pointer (some { block := w.heap.size + 1 + 1, off := 0 }), Value.pointer (some { block := w.heap.size + 1 + 1 + 1, off := 0 }), Value.int IntKind.i64 (x.1 : Int), Value.int IntKind.i64 (atE es x.1), Value.pointer (some { block := g, off := 2 }), Value.func (Fn.func 69) #[] #[Value.pointer (some { block := w.heap.size + 1 + 1 + 1 + 1, off := 0 })], Value.int IntKind.i64 (x.1 : Int), Value.int IntKind.i64 (atE es x.1), undef, undef, undef, undef, undef, undef, undef, undef, undef, undef, undef, undef, undef, undef, undef], defers := [] }) ?assign ?body ?done ?stop
  case assign =>
    intro l x W K hK
    dsimp only [enE]
    gi_wp2
    exact hK
  case body =>
    rintro l pre x W ⟨⟨hno, w0, w1, w2, w3, z2, z3⟩, hB⟩ _
    have hcW := (hB.cell (p := ⟨g, 3, none⟩) hg).trans hcX
    obtain ⟨c1, c2, c3⟩ := heX.below hB hb x.1 x.2
    have hxl : x.1 < es.length := x.2
    have hsz := hB.size
    have s0 : w.heap.size < W.heap.size := by omega
    have s1 : w.heap.size + 1 < W.heap.size := by omega
    have s2 : w.heap.size + 1 + 1 < W.heap.size := by omega
    have s3 : w.heap.size + 1 + 1 + 1 < W.heap.size := by omega
    have s4 : g < W.heap.size := by omega
    by_cases h1 : atE es x.1 = blk
    · have h1' : (atE es x.1 == blk) = true := by simpa using h1
      have H1 := Lib.hid h1
      clear h1
      cases h2 : es[x.1].2.1
      · rw [h2] at c2
        have hm : matchE es blk x = true := by unfold matchE; rw [h1']; simp [h2]
        have hm' := Lib.hid hm
        clear hm h2
        gi_wp2
        have k2 : ((W.setCell ⟨w.heap.size + 1 + 1, 0, none⟩ (.int .i64 x.1)).setCell ⟨w.heap.size + 1 + 1 + 1, 0, none⟩ (.bool true)).cell? ⟨w.heap.size + 1 + 1, 0, none⟩ = some (.int .i64 x.1) := by
          rw [World.cell?_of_block (Below.heap_setCell _ ⟨w.heap.size + 1 + 1 + 1, 0, none⟩ _ (w.heap.size + 1 + 1) (by show w.heap.size + 1 + 1 ≠ w.heap.size + 1 + 1 + 1; omega))]
          exact World.cell?_setCell_same' _ _ _ (by rw [w2]; rfl)
        have k3 : ((W.setCell ⟨w.heap.size + 1 + 1, 0, none⟩ (.int .i64 x.1)).setCell ⟨w.heap.size + 1 + 1 + 1, 0, none⟩ (.bool true)).cell? ⟨w.heap.size + 1 + 1 + 1, 0, none⟩ = some (.bool true) := by
          refine World.cell?_setCell_same' _ _ _ ?_
          rw [World.cell?_of_block (Below.heap_setCell _ ⟨w.heap.size + 1 + 1, 0, none⟩ _ (w.heap.size + 1 + 1 + 1) (by show w.heap.size + 1 + 1 + 1 ≠ w.heap.size + 1 + 1; omega)), w3]; rfl
        exact ⟨(KeepsOthers.setCell _ _ _).trans (KeepsOthers.setCell _ _ _), ⟨rfl, x, hm'.out, k2, k3⟩, (hB.setCell (p := ⟨w.heap.size + 1 + 1, 0, none⟩) (by show w.heap.size ≤ w.heap.size + 1 + 1; omega) _).setCell (p := ⟨w.heap.size + 1 + 1 + 1, 0, none⟩) (by show w.heap.size ≤ w.heap.size + 1 + 1 + 1; omega) _⟩
      · rw [h2] at c2
        have hm : matchE es blk x = false := by unfold matchE; simp [h2]
        have hm' := Lib.hid hm
        clear hm h2
        gi_wp2
        exact ⟨KeepsOthers.refl _, KC.refl _ _ _, ⟨fun y hy => (List.mem_append.1 hy).elim (hno y) (fun e => by simp at e; rw [e]; exact hm'.out), w0, w1, w2, w3, z2, z3⟩, hB⟩
    · have h1' : (atE es x.1 == blk) = false := by simpa using h1
      have hm : matchE es blk x = false := by unfold matchE; rw [h1']; rfl
      have hm' := Lib.hid hm
      clear hm h1
      gi_wp2
      exact ⟨KeepsOthers.refl _, KC.refl _ _ _, ⟨fun y hy => (List.mem_append.1 hy).elim (hno y) (fun e => by simp at e; rw [e]; exact hm'.out), w0, w1, w2, w3, z2, z3⟩, hB⟩
  case done =>
    rintro D ys W hD rfl ⟨⟨hno, w0, w1, w2, w3, z2, z3⟩, hB⟩ hK
    have hsz := hB.size
    have s2 : w.heap.size + 1 + 1 < W.heap.size := by omega
    have s3 : w.heap.size + 1 + 1 + 1 < W.heap.size := by omega
    go_wp2
    generalize hY : World.setCell _ _ _ = Y
    have hKY : Y.heap[D]? = some (.deferred (some [])) := by
      rw [← hY, Below.heap_setCell _ _ _ _ (by show D ≠ w.heap.size + 1 + 1 + 1; omega), Below.heap_setCell _ _ _ _ (by show D ≠ w.heap.size + 1 + 1; omega), hK]
    have k2 : Y.cell? ⟨w.heap.size + 1 + 1, 0, none⟩ = some (.int .i64 0) := by
      rw [← hY, World.cell?_of_block (Below.heap_setCell _ ⟨w.heap.size + 1 + 1 + 1, 0, none⟩ _ (w.heap.size + 1 + 1) (by show w.heap.size + 1 + 1 ≠ w.heap.size + 1 + 1 + 1; omega))]
      exact World.cell?_setCell_same' _ _ _ (by rw [w2]; rfl)
    have k3 : Y.cell? ⟨w.heap.size + 1 + 1 + 1, 0, none⟩ = some (.bool false) := by
      rw [← hY]
      refine World.cell?_setCell_same' _ _ _ ?_
      rw [World.cell?_of_block (Below.heap_setCell _ ⟨w.heap.size + 1 + 1, 0, none⟩ _ (w.heap.size + 1 + 1 + 1) (by show w.heap.size + 1 + 1 + 1 ≠ w.heap.size + 1 + 1; omega)), w3]; rfl
    have hBY : Below w.heap.size X Y := by
      rw [← hY]
      exact (hB.setCell (p := ⟨w.heap.size + 1 + 1, 0, none⟩) (by show w.heap.size ≤ w.heap.size + 1 + 1; omega) _).setCell (p := ⟨w.heap.size + 1 + 1 + 1, 0, none⟩) (by show w.heap.size ≤ w.heap.size + 1 + 1 + 1; omega) _
    refine ⟨by simp, .inl ⟨_, _, rfl, run_takeDeferred hKY, ?_⟩⟩
    have hc5 := cell_kept k2 (grownBy_putObj' _ D (.deferred none)) (fun r e => by cases e; exact ⟨_, hKY, rfl⟩)
    have hc6 := cell_kept k3 (grownBy_putObj' _ D (.deferred none)) (fun r e => by cases e; exact ⟨_, hKY, rfl⟩)
    refine ⟨.tuple #[.int .i64 0, .bool false], ?_, 0, false, rfl, .inr ⟨rfl, rfl, fun x => hno x ?_⟩, (hbX.trans hBY).trans (belowK_b (w := w) (Nat.le_refl _) Y D _ _ (by omega) hKY rfl rfl)⟩
    · simp [results, Try.f56, go_sem, hc5, hc6]
    · unfold fstE; rw [List.take_of_length_le (by simp)]; exact List.mem_finRange x
  case stop =>
    rintro D c pre W hD hpre ⟨⟨rfl, x, hx, w2, w3⟩, hB⟩ hK
    gi_wp2
    refine ⟨by simp, .inl ⟨_, _, rfl, run_takeDeferred hK, ?_⟩⟩
    have hc5 := cell_kept w2 (grownBy_putObj' _ D (.deferred none)) (fun r e => by cases e; exact ⟨_, hK, rfl⟩)
    have hc6 := cell_kept w3 (grownBy_putObj' _ D (.deferred none)) (fun r e => by cases e; exact ⟨_, hK, rfl⟩)
    refine ⟨.tuple #[.int .i64 x.1, .bool true], ?_, (x.1 : Int), true, rfl, .inl ⟨rfl, x, rfl, hx⟩, (hbX.trans hB).trans (belowK_b (w := w) (Nat.le_refl _) W D _ _ (by omega) hK rfl rfl)⟩
    simp [results, Try.f56, go_sem, hc5, hc6]
end Go.Proofs.Ytkjbkiiddnkmaaa
