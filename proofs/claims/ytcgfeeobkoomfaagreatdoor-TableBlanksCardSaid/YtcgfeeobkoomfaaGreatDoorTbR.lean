/- The cut; the writers; the places of the known table. -/
import Derived.Test.YtcgfeeobkoomfaaGreatDoorTbQ
import Derived.Laws.EntriesVeiled
namespace Go.Proofs.YtcgfeeobkoomfaaGreatDoor
open Go.RowKit
set_option linter.unusedVariables false
set_option linter.unusedSimpArgs false
set_option maxRecDepth 40000
theorem cut0 (b : Nat) (w : World) : Calls Tryz.prog 95 #[.slice (some ⟨b, 0, none⟩) 4 4, .int .i64 1, .int .i64 0] w fun e w' => e = .returned (.slice (some ⟨b, 0, none⟩) 0 0) ∧ w = w' := by
  go_enter Tryz.func95, Tryz.ntmps95
  go_wp2
  go_ret
  exact ⟨rfl, rfl⟩
theorem cut3 (b : Nat) (w : World) : Calls Tryz.prog 95 #[.slice (some ⟨b, 0, none⟩) 4 4, .int .i64 1, .int .i64 3] w fun e w' => e = .returned (.slice (some ⟨b, 1, none⟩) 3 3) ∧ w = w' := by
  go_enter Tryz.func95, Tryz.ntmps95
  go_wp2
  go_ret
  exact ⟨rfl, rfl⟩
theorem writers_any (w : World) : Calls Tryz.prog 96 #[] w fun e w' => e = .returned (.agg #[.nilFunc, .func (.func 124) #[] #[], .func (.func 125) #[] #[], .func (.func 126) #[] #[], .func (.func 128) #[] #[], .func (.func 130) #[] #[]]) ∧ Below w.heap.size w w' := by
  go_enter Tryz.func96, Tryz.ntmps96
  go_wp2
  exact bodyPost_ret (v := .agg #[.nilFunc, .func (.func 124) #[] #[], .func (.func 125) #[] #[], .func (.func 126) #[] #[], .func (.func 128) #[] #[], .func (.func 130) #[] #[]]) (by simp [results, Tryz.results96, go_sem]) rfl ⟨rfl, (Below.refl _ w).alloc (Nat.le_refl _) _⟩
abbrev tAb_ : ByteArray := ⟨#[97, 98, 32]⟩
theorem writer4 (w : World) : Calls Tryz.prog 128 #[vv 4 0 tAb, .int .i64 3] w fun e w' => e = .returned (.string tAb_) ∧ Below w.heap.size w w' := by
  have CR := Lib.hid (fun W => Repeat_fill 32 1 (by omega) W)
  have hf : fill 32 1 = ⟨#[32]⟩ := by kernel_rfl
  rw [hf] at CR
  have CR : Hid (∀ W : World, Calls Tryz.prog 129 #[.string ⟨#[32]⟩, .int .i64 (IntKind.i64.wrap 1)] W fun e w' => e = .returned (.string ⟨#[32]⟩) ∧ Below W.heap.size W w') := CR
  have HB0 := Lib.hid (((Below.refl _ w).alloc (Nat.le_refl _) (.cells #[.int .i64 4, .int .i64 0, .string tAb] 51)).drew)
  go_enter Tryz.func128, Tryz.ntmps128
  go_wp2_with fail
  go_region_held3 (fun y => w.heap.size < y.heap.size ∧ y.cell? ⟨w.heap.size, 2, none⟩ = some (.string tAb) ∧ Below w.heap.size w y) (first | exact ⟨hz1s, (hz1.cell (p := ⟨w.heap.size, 2, none⟩) (by simp)).trans (by simp [go_sem]), HB0.out.trans (hz1.mono (by simp))⟩ | exact ⟨by simp, by simp [go_sem], HB0.out⟩ | fail)
    (first | (go_at_call 129; (with_reducible refine (CR.out _).mono ?_); rintro _ z1 ⟨rfl, hz1⟩; have hz1s : w.heap.size < z1.heap.size := Nat.lt_of_lt_of_le (by simp) hz1.size) | fail)
  all_goals (
    go_wp2_with fail
    go_ret
    exact ⟨by rw [show tAb_ = tAb ++ ⟨#[32]⟩ by kernel_rfl]; rfl, HB0.out.trans (hz1.mono (by simp))⟩)
theorem app_int {w : World} {ops : Array Oper} {rest : List Oper} {o : Oper} {a : Act} {Q : Exit → Act → World → Prop} (hgd : o.guard = none) (s x : Operand)
    (ho : o.op = .call { callee := .builtin .append, args := #[s, x], argTypes := #[31, 31] })
    (base : Nat) (v : Value) (zs : List Int) (z : Int) (hs : a.eval s = v) (hown : Own w base 3 .i64 v zs)
    (ad : Addr) (c : Nat) (hx : a.eval x = .slice (some ad) 1 c) (hc : w.cell? ad = some (.int .i64 z)) (hlen : zs.length ≤ 1000000) (hbase : base ≤ w.heap.size)
    (h : ∀ v' w', Own w' base 3 .i64 v' (zs ++ [z]) → Below base w w' → w.grownBy w' v.ownBlock → wpList Tryz.prog ops Q rest (a.put o.dst v') w') : wpList Tryz.prog ops Q (o :: rest) a w := by
  obtain ⟨i0, hi0, hz0, hz1, hz2⟩ := info_parts (show (Tryz.prog.info? 3).map (fun i => (i.zero, i.size, i.bytes)) = some (some (.int .i64 0), 1, 8) by kernel_rfl)
  refine wpList_append_own w hgd s x 31 ho base 3 i0 (.int .i64 0) 1 8 Tryz.underlying31 hi0 hz0 hz1 hz2 rfl (by decide) v zs.length _ hs hown ad 1 c [.int .i64 z] hx rfl ?_ ?_ (by simp only [maxLen]; omega) (by omega) hbase ?_
  · intro j u hu
    rcases j with _ | j
    · simp at hu; subst hu; simpa [Addr.add] using hc
    · simp at hu
  · intro u hu; simp at hu; subst hu; rfl
  · intro v' w' hown' hg _
    exact h v' w' (by unfold Own; simpa using hown') ((Below.refl _ _).grown hg hbase fun g hg' => (hown.block hg').1) hg
theorem Own.none_int (w : World) (base : Nat) : Own w base 3 .i64 (.slice none 0 0) [] := World.ownsRow_nil _ _ _ _
theorem offsets_kt (bF : Nat) (w : World) (h : FdR w bF 0 [(tA, 4, 3, false)]) : Calls Tryz.prog 49 #[.slice (some ⟨bF, 0, none⟩) 1 1] w fun e w' => ∃ A c, e = .returned (.slice (some A) 1 c) ∧ w'.cell? A = some (.int .i64 1) ∧ A.block < w'.heap.size ∧ Below w.heap.size w w' := by
  have CF := Lib.hid (fun W hW => flagBytes_any bF 0 1 [(tA, 4, 3, false)] W (by simp) hW)
  rw [show flgN [(tA, 4, 3, false)] = 0 by decide +kernel] at CF
  simp only [List.length_singleton] at CF
  go_enter Tryz.func49, Tryz.ntmps49
  go_wp2_with fail
  refine (CF.out _ h).mono ?_
  rintro e w1 ⟨rfl, hb1⟩
  have h1 := h.below hb1 h.1
  have hs1 := hb1.size
  go_wp2_with fail
  go_loopw [4, 3, 12] (fun u t i wr => ∃ zs : List Int, Own wr w.heap.size 3 .i64 u zs ∧ ((i = .int .i64 0 ∧ t = .int .i64 1 ∧ zs = [] ∧ u = .slice none 0 0) ∨ (i = .int .i64 1 ∧ zs = [1])) ∧ Below w.heap.size w wr) (fun _ _ i _ => 1 - (intOf i).toNat)
  case atStart => exact ⟨[], Own.none_int _ _, .inl ⟨rfl, rfl, rfl, rfl⟩, hb1⟩
  case round =>
    obtain ⟨zs, ho, hi, hb⟩ := hrel
    clear hb1 h1 hs1
    have hs := hb.size
    rcases hi with ⟨rfl, rfl, rfl, rfl⟩ | ⟨rfl, rfl⟩
    · have hf := h.below hb h.1
      obtain ⟨c0, c1, c2, c3⟩ := hf.2 0 (by simp)
      simp only [List.getElem_cons_zero, Nat.zero_mul, Nat.zero_add, Nat.add_zero] at c0 c1 c2 c3
      have hbf := hf.1
      have HO := Lib.hid ((ho.alloc (.cells #[.string tA, .int .i64 4, .int .i64 3, .bool false] 49)).alloc (.cells #[.int .i64 1] 3))
      have HB := Lib.hid hb
      clear ho hb
      go_wp2_with (at_builtin; refine app_int rfl _ _ rfl w.heap.size (.slice none 0 0) [] 1 rfl HO.out ⟨wr.heap.size + 1, 0, none⟩ 1 rfl (by simp [go_sem]) (by simp) (by simp; omega) ?_; intro v' w' hown' hbl' hgr; have hx0 : w'.cell? ⟨wr.heap.size, 2, none⟩ = some (.int .i64 3) := hgr.cell (by simp [go_sem]) (by simp [Value.ownBlock]))
      exact ⟨⟨_, hown', .inr ⟨rfl, rfl⟩, HB.out.trans ((((Below.refl _ wr).alloc hs _).alloc (by simp; omega) _).trans hbl')⟩, by decide⟩
    · go_wp2_with fail
      go_ret
      obtain ⟨A, c, hv, q1, q2, hr⟩ := ho.out
      obtain ⟨ad, rfl, p1, p2⟩ := hr (by simp)
      exact ⟨ad, c, by rw [hv]; rfl, by simpa [Addr.add] using p2 0 (by simp), p1, hb⟩
end Go.Proofs.YtcgfeeobkoomfaaGreatDoor
