/- The free entries of a file that has none. -/
import Derived.Test.YtkjbkiiddnkmaaaMmC
namespace Go.Proofs.Ytkjbkiiddnkmaaa
open Go.RowKit Go.Shelf
set_option linter.unusedVariables false
set_option linter.unusedSimpArgs false
set_option maxRecDepth 100000
attribute [local go_sem] Oper.semAt_some

theorem grown_new {W W1 W2 : World} {row : Option Nat} (h : W.grownBy W1 none) (g : W1.grownBy W2 row) (hr : ∀ r, row = some r → W.heap.size ≤ r) : W.grownBy W2 none := by
  obtain ⟨a1, a2, a3, a4, a5⟩ := h
  obtain ⟨b1, b2, b3, b4, b5⟩ := g
  refine ⟨b1.trans a1, b2.trans a2, b3.trans a3, Nat.le_trans a4 b4, ?_⟩
  intro k hk _
  rw [b5 k (by omega) (fun e => by have := hr k e.symm; omega)]
  exact a5 k hk (by simp)
set_option maxHeartbeats 2000000 in
theorem gaps1_nil (F : Fence) (n : Nat) (hf : F.fn 82) (ha : F.fn 50) (ha1 : F.fn 69) (hro : F.round = none) (hn : 3 ≤ n) (l Bs g : Nat) (J : List (Int × Int) → World → Prop) (W : World) (hJ : AbidesFrom W.heap.size J) (hBs : W.cell? ⟨Bs, 0, none⟩ = some (.pointer (some ⟨g, 2, none⟩))) (hB : Bs < W.heap.size) (hg : g < W.heap.size) (hc : W.cell? ⟨g, 3, none⟩ = some (.slice none 0 0)) (h0 : J [] W) :
    CallsIn F n Try.prog 82 #[.func (.yield l) #[] #[], .pointer (some ⟨Bs, 0, none⟩)] W fun e W' => (∃ v, e = .returned v) ∧ J [] W' := by
  have h1 : 1 ≤ n := by omega
  have hbx : Below W.heap.size W (W.alloc (.cells #[.func (.yield l) #[] #[]] 46)) := (Below.refl _ _).alloc (Nat.le_refl _) _
  have hBs2 := (hbx.cell (p := ⟨Bs, 0, none⟩) hB).trans hBs
  have hc2 := (hbx.cell (p := ⟨g, 3, none⟩) hg).trans hc
  refine callsIn_of_wp_marks Try.func82 rfl hf ?_ hro
  simp only [Try.ntmps82, List.size_toArray, List.length_cons, List.length_nil, Nat.reduceAdd, Nat.reduceSub, Array.replicate_succ, Array.replicate_zero, List.push_toArray, List.append_toArray, List.nil_append, List.cons_append]
  gi_wp2_with (gi_at_call 50; refine (all_in F (n - 1) ha hro _ _).mono ?_; rintro e w' ⟨rfl, rfl⟩)
  have hz2 : ((W.alloc (.cells #[.func (.yield l) #[] #[]] 46)).alloc (.cells #[.pointer (some ⟨g, 2, none⟩)] 108)).heap.size = W.heap.size + 2 := by simp
  have hby : Below W.heap.size W ((W.alloc (.cells #[.func (.yield l) #[] #[]] 46)).alloc (.cells #[.pointer (some ⟨g, 2, none⟩)] 108)) := hbx.alloc (by simp) _
  have hgr : W.grownBy ((W.alloc (.cells #[.func (.yield l) #[] #[]] 46)).alloc (.cells #[.pointer (some ⟨g, 2, none⟩)] 108)) none := grown_new (World.grownBy_alloc W _ none) (World.grownBy_alloc _ _ none) (fun r e => by cases e)
  refine wpIn_rangeFunc_ownF hro h1 (gf := 69) (lb := #[.pointer (some ⟨W.heap.size + 1, 0, none⟩)]) rfl ha1 (enters_of Try.func69 (by kernel_rfl) rfl)
    (all_stops0 F (n - 1) ha1 hro (W.heap.size + 1) g W.heap.size _ (by rw [hz2]; omega) (by rw [hz2]; omega) (by simp) ((hby.cell (p := ⟨g, 3, none⟩) hg).trans hc)) belowK_t (belowK_b (by rw [hz2]; omega)) (Below.refl _ _) (fun _ => rfl)
    (fun _ W' => W.grownBy W' none) (fun _ _ _ => False)
    (fun s A B row hs hg hr => grown_new hs hg (fun r e => by have := (hr r e).1; rw [hz2] at this; omega))
    (fun _ _ _ _ _ hs _ _ => hs)
    hgr
    (fun x => { tmps := #[.func (.yield l) #[] #[], .pointer (some ⟨Bs, 0, none⟩), .pointer (some ⟨W.heap.size, 0, none⟩), .int .i64 x.1, .int .i64 x.2, .pointer (some ⟨g, 2, none⟩), .func (.func 69) #[] #[.pointer (some ⟨W.heap.size + 1, 0, none⟩)], .int .i64 x.1, .int .i64 x.2, undef, undef, undef, undef, undef, undef, undef, undef, undef, undef, undef, undef, undef, undef, undef], defers := [] }) ?assign ?body ?done ?stop
  case assign =>
    intro l x W K hK
    dsimp only [en2]
    gi_wp2
    exact hK
  case body =>
    intro l pre x W _ h
    exact absurd h (Nat.not_lt_zero _)
  case done =>
    rintro D ys W' hD rfl hgw hK
    gi_wp2
    refine ⟨by simp, .inl ⟨_, _, rfl, run_takeDeferred hK, ?_⟩⟩
    exact ⟨_, results_none rfl _ _ _, ⟨_, rfl⟩, hJ _ _ _ none h0 (grown_new hgw (grownBy_putObj' _ D (.deferred none)) (fun r e => by cases e; rw [hz2] at hD; omega)) (fun r e => by cases e)⟩
  case stop =>
    rintro D c pre W _ h _
    exact h.elim
end Go.Proofs.Ytkjbkiiddnkmaaa
