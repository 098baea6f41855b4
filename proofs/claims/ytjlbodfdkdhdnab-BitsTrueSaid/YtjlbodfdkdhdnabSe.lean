/- Clone, Known, Settle and Doubt, of the program and the reference. -/
import Derived.Test.YtjlbodfdkdhdnabNtR
import Derived.Test.YtjlbodfdkdhdnabL3
import Derived.Lib.SliceRun
namespace Go.Proofs.Ytjlbodfdkdhdnab
open Go.RowKit
set_option linter.unusedVariables false
set_option linter.unusedSimpArgs false
attribute [local go_sem ↓] Go.wp_at_zero Go.wp_at_succ

/-- Nothing is appended out of a nil slice. -/
theorem run_app_nil (w : World) (base : Nat) (ty : TypeId) (v : Value) (zs : List Int) (hown : Own w base 3 .i64 v zs) (c : Nat) : (Builtin.append_ #[22, 22] ty #[v, .slice none 0 c]).run Try.prog w = .ok v w := by
  obtain ⟨i0, hi0, hz0, hz1, hz2⟩ := info_parts info3
  rcases hown.2 with ⟨rfl, hn⟩ | ⟨g, cap, cur, rfl, _, _, hnc, _⟩
  · simp [Builtin.append_, run_underlying Try.underlying22, sizeOf, typeInfo, hi0, Builtin.lenOf, Builtin.firstCells]
  · simp [Builtin.append_, run_underlying Try.underlying22, sizeOf, typeInfo, hi0, Builtin.lenOf, Builtin.firstCells, hnc, storeCells]

/-- out = append(out, l...) of numbers of the kind int. -/
theorem app_ints {w : World} {ops : Array Oper} {rest : List Oper} {o : Oper} {a : Act} {Q : Exit → Act → World → Prop} (hgd : o.guard = none) (s x : Operand)
    (ho : o.op = .call { callee := .builtin .append, args := #[s, x], argTypes := #[22, 22] })
    (base : Nat) (v : Value) (zs news : List Int) (hs : a.eval s = v) (hown : Own w base 3 .i64 v zs)
    (A : Option Addr) (m c : Nat) (hx : a.eval x = .slice A m c) (hm : m = news.length) (B : Nat) (hr : Rd w B .i64 A news) (hlen : zs.length ≤ 100000) (hlen2 : news.length ≤ 100000) (hbase : base ≤ w.heap.size)
    (h : ∀ v' w', Own w' base 3 .i64 v' (zs ++ news) → Below base w w' → wpList Try.prog ops Q rest (a.put o.dst v') w') : wpList Try.prog ops Q (o :: rest) a w := by
  subst hm
  rcases A with _ | ad
  · have hn : news = [] := by
      rcases Nat.eq_zero_or_pos news.length with h0 | h0
      · exact List.length_eq_zero_iff.1 h0
      · obtain ⟨ad, e, _⟩ := hr h0; cases e
    subst hn
    refine wpList_plain hgd fun K hK => ?_
    have hrun := run_app_nil w base o.type v zs hown c
    unfold Oper.wp
    simp [execOp, ho, resolve, invoke, builtin, hs, hx, hrun, Result.andThen]
    exact hK _ _ (h v w (by simpa using hown) (Below.refl _ _))
  · obtain ⟨i0, hi0, hz0, hz1, hz2⟩ := info_parts info3
    refine wpList_append_own w hgd s x 22 ho base 3 i0 (.int .i64 0) 1 8 Try.underlying22 hi0 hz0 hz1 hz2 rfl (by decide) v zs.length _ hs hown ad news.length c (news.map (Value.int .i64)) hx (by simp) ?_ ?_ (by simp only [maxLen]; omega) (by omega) hbase ?_
    · intro j u hu
      rw [List.getElem?_map, Option.map_eq_some_iff] at hu
      obtain ⟨z, hz, rfl⟩ := hu
      obtain ⟨hj, rfl⟩ := List.getElem?_eq_some_iff.1 hz
      obtain ⟨ad', e, _, hc⟩ := hr (by omega)
      injection e with e
      subst e
      rw [hc j hj, List.getD, List.getElem?_eq_getElem hj]; rfl
    · intro u hu; obtain ⟨z, _, rfl⟩ := List.mem_map.1 hu; rfl
    · intro v' w' hown' hg _
      exact h v' w' (by unfold Own; simpa using hown') ((Below.refl _ _).grown hg hbase fun g hg' => (hown.block hg').1)

theorem own_empty (w : World) : Own (w.alloc (.cells #[] 3)) w.heap.size 3 .i64 (.slice (some ⟨w.heap.size, 0, none⟩) 0 0) [] :=
  ⟨by simp, .inr ⟨w.heap.size, 0, #[], rfl, Nat.le_refl _, heap_alloc_new w _, by simp, by simp, by simp, by simp⟩⟩

set_option maxHeartbeats 2000000 in
theorem clone_any (A : Option Addr) (c : Nat) (zs : List Int) (w : World) (h : Lk w w.heap.size A zs c) :
    Calls Try.prog 61 #[.slice A zs.length c] w fun e w' => ∃ v, e = .returned v ∧ Own w' w.heap.size 3 .i64 v zs ∧ Below w.heap.size w w' := by
  have hl := h.len
  have H := Lib.hid h; clear h
  have hq : ∀ W : World, (binOp .eql 22 (.slice A zs.length c) (.slice none 0 0)).run Try.prog W = .ok (.bool A.isNone) W := fun W => Lib.run_eql_slice_nil W 22 3 A zs.length c 0 0 Try.underlying22
  rcases A with _ | ad
  · have hz : zs = [] := by
      rcases Nat.eq_zero_or_pos zs.length with h0 | h0
      · exact List.length_eq_zero_iff.1 h0
      · obtain ⟨ad, e, _⟩ := H.out.rd h0; cases e
    subst hz
    simp only [List.length_nil, Option.isNone_none] at hq ⊢
    go_enter Try.func61, Try.ntmps61
    go_wp2
    go_ret
    exact ⟨_, rfl, Own.nil _ _ _ _, Below.refl _ _⟩
  · simp only [Option.isNone_some] at hq
    go_enter Try.func61, Try.ntmps61
    go_wp2_with (at_builtin; refine app_ints rfl _ _ rfl w.heap.size _ [] zs rfl (own_empty w) (some ad) zs.length c rfl rfl w.heap.size (H.out.rd.alloc (Nat.le_refl _) _) (by simp) (by omega) (by simp) ?_; intro v' w' hown' hb')
    go_ret
    exact ⟨_, rfl, by simpa using hown', (Below.of_alloc _ _ _ (Nat.le_refl _)).trans hb'⟩
end Go.Proofs.Ytjlbodfdkdhdnab
