/- put into a file that has no entry. -/
import Derived.Test.YtkjbkiiddnkmaaaMmE
import Derived.Laws.NewBlocks
import Derived.RegionTactic
import Derived.BigRegion
import Derived.Deep.DrawnRows
import Derived.Deep.AppendLies
import Derived.Laws.AppendOwn
namespace Go.Proofs.Ytkjbkiiddnkmaaa
open Go.RowKit Go.Shelf
set_option linter.unusedVariables false
set_option linter.unusedSimpArgs false
set_option maxRecDepth 100000
attribute [local go_sem] Oper.semAt_some

theorem ndN_bd (z n : Int) (h1 : 16 ≤ z) (h2 : z ≤ 256) (h3 : 0 ≤ n) (h4 : n ≤ 2048) : 1 ≤ ndN z n ∧ ndN z n ≤ 200 := by
  unfold ndN
  constructor
  · rw [Int.le_ediv_iff_mul_le (by omega)]; omega
  · have : (n + 12 + z - 1) / z < 201 := by
      rw [Int.ediv_lt_iff_lt_mul (by omega)]; omega
    omega
/-- An entry's cells. -/
def Ent (w : World) (b : Nat) (k : Int) (f : Bool) (s : ByteArray) : Prop :=
  w.cell? ⟨b, 0, none⟩ = some (.int .i64 k) ∧ w.cell? ⟨b, 1, none⟩ = some (.bool f) ∧ w.cell? ⟨b, 2, none⟩ = some (.string s) ∧ b < w.heap.size
theorem Ent.below {w w' : World} {b B : Nat} {k : Int} {f : Bool} {s : ByteArray} (h : Ent w b k f s) (hb : Below B w w') (hg : b < B) : Ent w' b k f s :=
  ⟨(hb.cell (p := ⟨b, 0, none⟩) hg).trans h.1, (hb.cell (p := ⟨b, 1, none⟩) hg).trans h.2.1, (hb.cell (p := ⟨b, 2, none⟩) hg).trans h.2.2.1, by have := h.2.2.2; have := hb.size; omega⟩
def PutRes (n₀ g : Nat) (l z k : Int) (s : ByteArray) (w : World) (e : Ending) (w' : World) : Prop :=
  ∃ b cap, e = .returned (.tuple #[.int .i64 1, .int .i64 0]) ∧ Below n₀ w w' ∧ Mm w' g l z (.slice (some ⟨b, 0, none⟩) 1 cap) ∧ Ent w' b k false s ∧ w.heap.size ≤ b ∧ b ≠ g

set_option maxHeartbeats 4000000 in
theorem put_nil (n₀ g : Nat) (l z : Int) (s : ByteArray) (w : World) (hn : n₀ ≤ g) (h1 : 16 ≤ z) (h2 : z ≤ 256) (hs : s.size ≤ 2048) (hm : Mm w g l z (.slice none 0 0)) :
    Calls Try.prog 55 #[.pointer (some ⟨g, 2, none⟩), .string s] w (PutRes n₀ g l z (ndN z s.size) s w) := by
  have hc := hm
  obtain ⟨c0, c2, c3, f0, f3, hg⟩ := hc
  have C1 := Lib.hid (fun W => needs_any z s.size W h1 h2 (by omega) (by omega))
  have C2 := Lib.hid (fun (a : Addr) W => callsIn_wide.1 (gaps_in Fence.wide 9 trivial rfl a W))
  have g1 : g < w.heap.size + 1 := by omega
  have g2 : g < w.heap.size + 1 + 1 := by omega
  have g3 : g < w.heap.size + 1 + 1 + 1 := by omega
  have g4 : g < w.heap.size + 1 + 1 + 1 + 1 := by omega
  have g5 : g < w.heap.size + 1 + 1 + 1 + 1 + 1 := by omega
  refine (callsIn_wide (n := 9)).1 ?_
  refine callsIn_of_wp_marks Try.func55 rfl trivial ?_ rfl
  refine wpIn_wide.2 ?_
  simp only [Try.ntmps55, List.size_toArray, List.length_cons, List.length_nil, Nat.reduceAdd, Nat.reduceSub, Array.replicate_succ, Array.replicate_zero, List.push_toArray, List.append_toArray, List.nil_append, List.cons_append]
  go_wp2_with fail
  refine (C1.out _).mono ?_
  rintro e w' ⟨rfl, rfl⟩
  go_wp2_with fail
  refine (C2.out _ _).mono ?_
  rintro e w' ⟨rfl, rfl⟩
  go_wp2_with fail
  generalize hX : (((((w.alloc (Obj.cells #[Value.pointer (some { block := g, off := 2 })] 108)).alloc (Obj.cells #[Value.int IntKind.i64 0] 3)).alloc (Obj.cells #[Value.int IntKind.i64 0] 26)).alloc (Obj.cells #[Value.int IntKind.i64 (ndN z ↑s.size), Value.bool false, Value.string s] 95)).alloc (Obj.cells #[Value.pointer (some { block := g, off := 2 })] 108)) = X
  have hXs : X.heap.size = w.heap.size + 5 := by rw [← hX]; simp
  have hXs' : w.heap.size ≤ X.heap.size := by omega
  have hX5 : w.heap.size + 5 ≤ X.heap.size := by omega
  have hbX : Below w.heap.size w X := by
    rw [← hX]
    exact (((((Below.refl _ _).alloc (Nat.le_refl _) _).alloc (by simp) _).alloc (by simp; omega) _).alloc (by simp; omega) _).alloc (by simp; omega) _
  have x0 : X.cell? ⟨w.heap.size, 0, none⟩ = some (.pointer (some ⟨g, 2, none⟩)) := by rw [← hX]; simp [go_sem]
  have x1 : X.cell? ⟨w.heap.size + 1, 0, none⟩ = some (.int .i64 0) := by rw [← hX]; simp [go_sem]
  have x2 : X.cell? ⟨w.heap.size + 1 + 1, 0, none⟩ = some (.int .i64 0) := by rw [← hX]; simp [go_sem]
  have x3 : ∀ o, X.cell? ⟨w.heap.size + 1 + 1 + 1, o, none⟩ = #[Value.int IntKind.i64 (ndN z ↑s.size), Value.bool false, Value.string s][o]? := by intro o; rw [← hX]; simp [go_sem]
  have x4 : X.cell? ⟨w.heap.size + 1 + 1 + 1 + 1, 0, none⟩ = some (.pointer (some ⟨g, 2, none⟩)) := by rw [← hX]; simp [go_sem]
  have y1 : X.frozen? ⟨w.heap.size + 1, 0, none⟩ = false := by rw [← hX]; simp [go_sem]
  have y2 : X.frozen? ⟨w.heap.size + 1 + 1, 0, none⟩ = false := by rw [← hX]; simp [go_sem]
  have y3 : ∀ o, X.frozen? ⟨w.heap.size + 1 + 1 + 1, o, none⟩ = false := by intro o; rw [← hX]; simp [go_sem]
  have hmX := hm.below hbX hg
  clear hX
  refine wpIn_wide (n := 9).1 ?_
  refine wpIn_rangeFunc_ownF rfl (by omega) (gf := 82) (lb := #[.pointer (some ⟨w.heap.size + 1 + 1 + 1 + 1, 0, none⟩)]) rfl trivial (enters_of Try.func82 (by kernel_rfl) rfl)
    (gaps_stops0 Fence.wide 8 trivial trivial trivial rfl (by omega) (w.heap.size + 1 + 1 + 1 + 1) g w.heap.size _ (by omega) (by omega) x4 hmX.2.2.1) belowK_t (belowK_b (by omega)) (Below.refl _ _) (fun _ => rfl)
    (fun _ W' => X.grownBy W' none) (fun _ _ _ => False)
    (fun s A B row hs hg hr => grown_new hs hg (fun r e => (hr r e).1))
    (fun _ _ _ _ _ hs _ _ => hs)
    (World.grownBy.refl X none)
    (fun x => { tmps := #[Value.pointer (some { block := g, off := 2 }), Value.string s, Value.pointer (some { block := w.heap.size, off := 0 }), undef, Value.pointer (some { block := w.heap.size + 1, off := 0 }), Value.pointer (some { block := w.heap.size + 1 + 1, off := 0 }), Value.pointer (some { block := w.heap.size + 1 + 1 + 1, off := 0 }), Value.int IntKind.i64 x.1, Value.int IntKind.i64 x.2, undef, undef, Value.pointer (some { block := g, off := 2 }), Value.pointer (some { block := g, off := 2 }), Value.pointer (some { block := g, off := 2 }), Value.int IntKind.i64 z, Value.string s, Value.int IntKind.i64 ↑s.size, Value.int IntKind.i64 (ndN z ↑s.size), Value.string s, Value.agg #[Value.int IntKind.i64 (ndN z ↑s.size), Value.bool false, Value.string s], Value.pointer (some { block := g, off := 2 }), Value.func (Fn.func 82) #[] #[Value.pointer (some { block := w.heap.size + 1 + 1 + 1 + 1, off := 0 })], Value.int IntKind.i64 x.1, Value.int IntKind.i64 x.2, undef, undef, undef, undef, undef, undef, undef, undef, undef, undef, undef, undef, undef, undef, undef, undef, undef, undef, undef, undef, undef, undef, undef, undef, undef, undef, undef, undef, undef, undef, undef, undef, undef, undef, undef, undef, undef, undef, undef, undef, undef, undef, undef, undef, undef, undef, undef, undef, undef, undef, undef, undef, undef, undef], defers := [] }) ?assign ?body ?done ?stop
  case assign =>
    intro l x W K hK
    dsimp only [en2]
    gi_wp2
    exact hK
  case body =>
    intro l pre x W _ h
    exact absurd h (Nat.not_lt_zero _)
  case stop =>
    rintro D c pre W _ h _
    exact h.elim
  case done =>
    rintro D ys W' hD rfl hgw hK
    have hk : ∀ b o, b < X.heap.size → W'.cell? ⟨b, o, none⟩ = X.cell? ⟨b, o, none⟩ := fun b o hb => by
      simp only [World.cell?, hgw.block b hb (by simp)]
    have hf : ∀ b o, b < X.heap.size → W'.frozen? ⟨b, o, none⟩ = X.frozen? ⟨b, o, none⟩ := fun b o hb => by
      simp only [World.frozen?, hgw.block b hb (by simp)]
    have hsz : X.heap.size ≤ W'.heap.size := hgw.size
    have hbW : Below w.heap.size X W' := by
      refine Below.grown (Below.refl _ _) hgw hXs' (by simp)
    rw [← hk _ _ (by omega)] at x0 x1 x2
    have x3' : ∀ o, W'.cell? ⟨w.heap.size + 1 + 1 + 1, o, none⟩ = #[Value.int IntKind.i64 (ndN z ↑s.size), Value.bool false, Value.string s][o]? := fun o => (hk _ _ (by omega)).trans (x3 o)
    rw [← hf _ _ (by omega)] at y1 y2
    have hmW := hmX.below hbW (by omega)
    obtain ⟨d0, d2, d3, e0, e3, hgW⟩ := hmW
    have C3 := Lib.hid (blocks_nil g W' d3)
    have s0 : w.heap.size < W'.heap.size := by omega
    have s1 : w.heap.size + 1 < W'.heap.size := by omega
    have s2 : w.heap.size + 1 + 1 < W'.heap.size := by omega
    have s3 : w.heap.size + 1 + 1 + 1 < W'.heap.size := by omega
    clear hk hf hXs x3
    dsimp only
    go_wp2_with fail
    refine C3.out.mono ?_
    rintro e w2 ⟨rfl, hb2⟩
    have hq : ∀ b o, b < W'.heap.size → w2.cell? ⟨b, o, none⟩ = W'.cell? ⟨b, o, none⟩ := fun b o hb => hb2.cell (p := ⟨b, o, none⟩) hb
    have hr : ∀ b o, b < W'.heap.size → w2.frozen? ⟨b, o, none⟩ = W'.frozen? ⟨b, o, none⟩ := fun b o hb => hb2.frozen (p := ⟨b, o, none⟩) hb
    rw [← hq _ _ (by omega)] at x0 x1 x2 d0 d2 d3
    rw [← hr _ _ (by omega)] at y1 y2 e0 e3
    have x30 : w2.cell? ⟨w.heap.size + 1 + 1 + 1, 0, none⟩ = some (.int .i64 (ndN z ↑s.size)) := (hq _ _ s3).trans (x3' 0)
    have x31 : w2.cell? ⟨w.heap.size + 1 + 1 + 1, 1, none⟩ = some (.bool false) := (hq _ _ s3).trans (x3' 1)
    have x32 : w2.cell? ⟨w.heap.size + 1 + 1 + 1, 2, none⟩ = some (.string s) := (hq _ _ s3).trans (x3' 2)
    have hz2 := hb2.size
    have t0 : w.heap.size < w2.heap.size := by omega
    have t1 : w.heap.size + 1 < w2.heap.size := by omega
    have t2 : w.heap.size + 1 + 1 < w2.heap.size := by omega
    have t3 : w.heap.size + 1 + 1 + 1 < w2.heap.size := by omega
    have t4 : g < w2.heap.size := by omega
    obtain ⟨n1, n2⟩ := ndN_bd z s.size h1 h2 (by omega) (by omega)
    clear hq hr x3'
    go_wp2_with fail
    have hcap : (281474976710656 < Builtin.nextslicecap 1 0 * Try.t95.bytes) = False := eq_false (by decide)
    go_region
    all_goals go_wp2_with fail
    generalize hcv : (Question.appendCap 1 0 95).cut (w2.tape (w2.drawn + 1) (Question.appendCap 1 0 95)) = cv
    generalize hY : World.drew (World.drew _) = Y
    have hbY : Below n₀ w Y := by
      rw [← hY]
      refine Below.drew (Below.drew (Below.alloc (Below.alloc (Below.setCell (Below.setCell (Below.setCell (((hbX.trans hbW).mono (Nat.le_of_lt (Nat.lt_of_le_of_lt hn hg))).trans (hb2.mono (by omega))) ?_ _) ?_ _) ?_ _) ?_ _) ?_ _))
      · exact hn
      · show n₀ ≤ w.heap.size + 1; omega
      · show n₀ ≤ w.heap.size + 1 + 1; omega
      · simp; omega
      · simp; omega
    have hKY : Y.heap[D]? = some (.deferred (some [])) := by
      have hD2 : D < W'.heap.size := (Array.getElem?_eq_some_iff.1 hK).1
      have q : w2.heap[D]? = some (.deferred (some [])) := (hb2.block D hD2).trans hK
      rw [← hY]
      show (World.alloc _ _).heap[D]? = _
      rw [Below.heap_alloc _ _ _ (by simp; omega), Below.heap_alloc _ _ _ (by simp; omega), Below.heap_setCell _ _ _ _ (by show D ≠ w.heap.size + 1 + 1; omega), Below.heap_setCell _ _ _ _ (by show D ≠ w.heap.size + 1; omega), Below.heap_setCell _ _ _ _ (by show D ≠ g; omega), q]
    have hYZ := grownBy_putObj' Y D (.deferred none)
    refine ⟨by simp, .inl ⟨_, _, rfl, run_takeDeferred hKY, ?_⟩⟩
    have hDc : ∀ r, some D = some r → ∃ o, Y.heap[r]? = some o ∧ o.isCells = false := fun r e => by cases e; exact ⟨_, hKY, rfl⟩
    have u1 : g ≠ w.heap.size + 1 := by omega
    have u2 : g ≠ w.heap.size + 1 + 1 := by omega
    have u3 : ¬ w.heap.size + 1 = g := by omega
    have u4 : ¬ w.heap.size + 1 + 1 = g := by omega
    have v1 : w.heap.size + 1 < w2.heap.size + 1 := by omega
    have v2 : w.heap.size + 1 + 1 < w2.heap.size + 1 := by omega
    have v3 : g < w2.heap.size + 1 := by omega
    have hk5 : Y.cell? ⟨w.heap.size + 1, 0, none⟩ = some (.int .i64 1) := by rw [← hY]; simp [go_sem, x1, u3, t1, v1]
    have hb5 : Y.cell? ⟨w.heap.size + 1 + 1, 0, none⟩ = some (.int .i64 0) := by rw [← hY]; simp [go_sem, x2, u4, t2, v2]
    have m0 : Y.cell? ⟨g, 0, none⟩ = some (.int .i32 l) := by rw [← hY]; simp [go_sem, d0, u1, u2, t4, v3]
    have m2 : Y.cell? ⟨g, 2, none⟩ = some (.int .i64 z) := by rw [← hY]; simp [go_sem, d2, u1, u2, t4, v3]
    have m3 : Y.cell? ⟨g, 3, none⟩ = some (.slice (some ⟨w2.heap.size + 1, 0, none⟩) 1 cv) := by rw [← hY]; simp [go_sem, d3, u1, u2, t4, v3]
    have mf0 : Y.frozen? ⟨g, 0, none⟩ = false := by rw [← hY]; simp [go_sem, e0, t4, v3]
    have mf3 : Y.frozen? ⟨g, 3, none⟩ = false := by rw [← hY]; simp [go_sem, e3, t4, v3]
    have en : ∀ o, o < 3 → Y.cell? ⟨w2.heap.size + 1, o, none⟩ = #[Value.int IntKind.i64 (ndN z ↑s.size), Value.bool false, Value.string s][o]? := by
      intro o ho; rw [← hY]; simp [go_sem]
      rw [Array.getElem?_append_left (by simpa using ho)]
      first | rfl | simp
    have hYs : w2.heap.size + 1 < Y.heap.size := by rw [← hY]; simp
    have kk := fun a v (h : Y.cell? a = some v) => cell_kept h hYZ hDc
    have kf := fun a v (h : Y.cell? a = some v) => frozen_kept h hYZ hDc
    refine ⟨.tuple #[.int .i64 1, .int .i64 0], ?_, w2.heap.size + 1, cv, rfl, ?_, ⟨?_, ?_, ?_, ?_, ?_, ?_⟩, ⟨?_, ?_, ?_, ?_⟩, ?_, ?_⟩
    · have r1 := kk _ _ hk5
      have r2 := kk _ _ hb5
      simp [results, Try.f55, go_sem, r1, r2]
    · exact hbY.trans (belowK_b (w := w) (by omega) Y D _ _ (by omega) hKY rfl rfl)
    · exact kk _ _ m0
    · exact kk _ _ m2
    · exact kk _ _ m3
    · exact (kf _ _ m0).trans mf0
    · exact (kf _ _ m3).trans mf3
    · have := hYZ.size; omega
    · exact kk _ _ (en 0 (by omega))
    · exact kk _ _ (en 1 (by omega))
    · exact kk _ _ (en 2 (by omega))
    · have := hYZ.size; omega
    · omega
    · omega
end Go.Proofs.Ytkjbkiiddnkmaaa
