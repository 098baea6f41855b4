/- Numbers as bytes, of the program and the reference. -/
import Derived.Test.YtoldjpnkgdhpkaaP2
namespace Go.Proofs.Ytoldjpnkgdhpkaa
open Go.RowKit
set_option linter.unusedVariables false
set_option linter.unusedSimpArgs false

/-- out = append(out, l...) of bytes, l not empty. -/
theorem app_bytes {w : World} {ops : Array Oper} {rest : List Oper} {o : Oper} {a : Act} {Q : Exit → Act → World → Prop} (hgd : o.guard = none) (s x : Operand)
    (ho : o.op = .call { callee := .builtin .append, args := #[s, x], argTypes := #[52, 52] })
    (base : Nat) (v : Value) (zs news : List Int) (hs : a.eval s = v) (hown : Own w base 5 .u8 v zs)
    (A : Option Addr) (m c : Nat) (hx : a.eval x = .slice A m c) (hm : m = news.length) (hpos : 0 < news.length) (B : Nat) (hr : Rd w B .u8 A news) (hlen : zs.length ≤ 100000) (hlen2 : news.length ≤ 100000) (hbase : base ≤ w.heap.size)
    (h : ∀ v' w', Own w' base 5 .u8 v' (zs ++ news) → Below base w w' → w.grownBy w' v.ownBlock → wpList Try.prog ops Q rest (a.put o.dst v') w') : wpList Try.prog ops Q (o :: rest) a w := by
  obtain ⟨i0, hi0, hz0, hz1, hz2⟩ := info_parts info5
  obtain ⟨ad, rfl, _, hc⟩ := hr hpos
  subst hm
  refine wpList_append_own w hgd s x 52 ho base 5 i0 (.int .u8 0) 1 1 Try.underlying52 hi0 hz0 hz1 hz2 rfl (by decide) v zs.length _ hs hown ad news.length c (news.map (Value.int .u8)) hx (by simp) ?_ ?_ (by simp only [maxLen]; omega) (by omega) hbase ?_
  · intro j u hu
    rw [List.getElem?_map, Option.map_eq_some_iff] at hu
    obtain ⟨z, hz, rfl⟩ := hu
    obtain ⟨hj, rfl⟩ := List.getElem?_eq_some_iff.1 hz
    rw [hc j hj, List.getD, List.getElem?_eq_getElem hj]; rfl
  · intro u hu; obtain ⟨z, _, rfl⟩ := List.mem_map.1 hu; rfl
  · intro v' w' hown' hg _
    exact h v' w' (by unfold Own; simpa using hown') ((Below.refl _ _).grown hg hbase fun g hg' => (hown.block hg').1) hg

theorem rd_new2 (w : World) (k : IntKind) (t : TypeId) (x y : Int) : Rd (w.alloc (.cells #[.int k x, .int k y] t)) (w.heap.size + 1) k (some ⟨w.heap.size, 0, none⟩) [x, y] := fun _ => by
  refine ⟨_, rfl, by simp, fun j hj => ?_⟩
  have hb := Bk.new w t #[.int k x, .int k y]
  rcases j with _ | _ | j
  · simp [Addr.add]
  · simp [Addr.add]
  · simp at hj; omega
theorem numL_small {n : Int} (h : n < 128) : numL n = [n] := by rw [numL, if_pos h]
theorem numL_big {n : Int} (h : ¬ n < 128) : numL n = [128 + n % 128, n / 128] := by rw [numL, if_neg h]

set_option maxHeartbeats 2000000 in
theorem appendNumber_any (v : Value) (zs : List Int) (n : Int) (base : Nat) (w : World) (hown : Own w base 5 .u8 v zs) (hb : base ≤ w.heap.size) (hl : zs.length ≤ 10000) (h0 : 0 ≤ n) (h1 : n ≤ 30000) :
    Calls Try.prog 62 #[v, .int .i64 n] w fun e w' => ∃ v', e = .returned v' ∧ Own w' base 5 .u8 v' (zs ++ numL n) ∧ Below base w w' ∧ Hid (Far w w' v) := by
  have HO := Lib.hid hown; clear hown
  by_cases h : n < 128
  · have hnum := numL_small h
    have HN := Lib.hid hnum; clear hnum
    go_enter Try.func62, Try.ntmps62
    go_wp2_with (at_builtin; refine app_byte rfl _ _ rfl base _ _ n rfl (HO.out.alloc _) ⟨w.heap.size, 0, none⟩ 1 rfl (new_cell _ _ _) (by omega) (size_alloc hb _) ?_; intro v' w' hown' hb' hg'; have HG := Lib.hid hg'; clear hg')
    go_ret
    exact ⟨_, rfl, hown'.of_eq (by rw [HN.out]), (Below.of_alloc _ _ _ hb).trans hb', Lib.hid (Far.of_grown HG.out)⟩
  · have hnum := numL_big h
    have HN := Lib.hid hnum; clear hnum
    go_enter Try.func62, Try.ntmps62
    go_wp2_with (at_builtin; refine app_bytes rfl _ _ rfl base _ _ [128 + n % 128, n / 128] rfl (HO.out.alloc _) (some ⟨w.heap.size, 0, none⟩) 2 2 rfl rfl (by simp) _ (rd_new2 _ _ _ _ _) (by omega) (by simp) (size_alloc hb _) ?_; intro v' w' hown' hb' hg'; have HG := Lib.hid hg'; clear hg')
    go_ret
    exact ⟨_, rfl, hown'.of_eq (by rw [HN.out]), (Below.of_alloc _ _ _ hb).trans hb', Lib.hid (Far.of_grown HG.out)⟩
end Go.Proofs.Ytoldjpnkgdhpkaa
