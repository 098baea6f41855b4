/- Stretches: slices of pairs that a call makes itself; Ranges of the program. -/
import Derived.Test.YtoldjpnkgdhpkaaJ2
namespace Go.Proofs.Ytoldjpnkgdhpkaa
open Go.RowKit
set_option linter.unusedVariables false
set_option linter.unusedSimpArgs false

def pcells (rs : List (Int × Int)) : List Value := rs.flatMap fun p => [.int .i64 p.1, .int .i64 p.2]
theorem pcells_len (rs : List (Int × Int)) : (pcells rs).length = rs.length * 2 := by
  induction rs with
  | nil => rfl
  | cons p rs ih => simp only [pcells, List.flatMap_cons, List.length_append, List.length_cons, List.length_nil] at ih ⊢; omega
theorem pcells_append (r s : List (Int × Int)) : pcells (r ++ s) = pcells r ++ pcells s := by simp [pcells]
theorem pcells_at : ∀ (rs : List (Int × Int)) (j : Nat), j < rs.length → (pcells rs)[j * 2]? = some (.int .i64 (rs.getD j (0, 0)).1) ∧ (pcells rs)[j * 2 + 1]? = some (.int .i64 (rs.getD j (0, 0)).2)
  | p :: rs, 0, _ => by simp [pcells]
  | p :: rs, j + 1, h => by
    have := pcells_at rs j (by simpa using h)
    have e : pcells (p :: rs) = .int .i64 p.1 :: .int .i64 p.2 :: pcells rs := rfl
    rw [e, show (j + 1) * 2 = j * 2 + 1 + 1 by omega]
    simpa using this

def OwnP (w : World) (base : Nat) (v : Value) (rs : List (Int × Int)) : Prop := w.ownsRow base 50 2 v rs.length (pcells rs)
section
variable {w w' : World} {base : Nat} {v : Value} {rs : List (Int × Int)}
theorem OwnP.nil (w : World) (base : Nat) : OwnP w base (.slice none 0 0) [] := ⟨by simp [pcells], .inl ⟨rfl, rfl⟩⟩
theorem OwnP.alloc (h : OwnP w base v rs) (o : Obj) : OwnP (w.alloc o) base v rs := World.ownsRow.alloc h o
theorem OwnP.of_eq {ys : List (Int × Int)} (h : OwnP w base v rs) (he : rs = ys) : OwnP w base v ys := he ▸ h
theorem OwnP.dr (h : OwnP w base v rs) (hd : Dr w w') : OwnP w' base v rs := by obtain ⟨m, rfl⟩ := hd; exact h
theorem OwnP.low {b : Nat} (h : OwnP w base v rs) (hb : b ≤ base) : OwnP w b v rs := by
  refine ⟨h.1, ?_⟩
  rcases h.2 with hn | ⟨g', cap, cur, hv, hb', rest⟩
  · exact .inl hn
  · exact .inr ⟨g', cap, cur, hv, by omega, rest⟩
theorem OwnP.below {B : Nat} (h : OwnP w base v rs) (hb : Below B w w') (hB : w.heap.size ≤ B) : OwnP w' base v rs := by
  refine ⟨h.1, ?_⟩
  rcases h.2 with hn | ⟨g', cap, cur, hv, hb', hh, rest⟩
  · exact .inl hn
  · refine .inr ⟨g', cap, cur, hv, hb', ?_, rest⟩
    have hlt := lt_of_block hh
    rw [hb.block g' (by omega), hh]
theorem OwnP.block (h : OwnP w base v rs) {g : Nat} (hg : v.ownBlock = some g) : base ≤ g ∧ g < w.heap.size := by
  rcases h.2 with ⟨rfl, _⟩ | ⟨g', cap, cur, rfl, hb, hh, _⟩
  · simp [Value.ownBlock] at hg
  · have : g' = g := by simpa [Value.ownBlock] using hg
    subst this
    exact ⟨hb, lt_of_block hh⟩
theorem OwnP.out (h : OwnP w base v rs) : ∃ A c, v = .slice A rs.length c ∧ rs.length ≤ c ∧ c ≤ maxLen := by
  rcases h.2 with ⟨rfl, hn⟩ | ⟨g', cap, cur, rfl, hb', hh, hnc, hcm, _⟩
  · exact ⟨none, 0, by rw [hn], by omega, by simp⟩
  · exact ⟨some ⟨g', 0, none⟩, cap, rfl, hnc, hcm⟩
theorem OwnP.form (h : OwnP w base v rs) (hn : 0 < rs.length) : ∃ g c, v = .slice (some ⟨g, 0, none⟩) rs.length c ∧ base ≤ g ∧ g < w.heap.size ∧ rs.length ≤ c ∧ c ≤ maxLen ∧
    (∀ j, j < rs.length → w.cell? ⟨g, j * 2, none⟩ = some (.int .i64 (rs.getD j (0, 0)).1) ∧ w.cell? ⟨g, j * 2 + 1, none⟩ = some (.int .i64 (rs.getD j (0, 0)).2)) ∧
    (∀ j, j < rs.length * 2 → w.frozen? ⟨g, j, none⟩ = false) := by
  have h' := h
  rcases h.2 with ⟨rfl, h0⟩ | ⟨g', cap, cur, rfl, hb', hh, hnc, hcm, _⟩
  · omega
  · refine ⟨g', cap, rfl, hb', lt_of_block hh, hnc, hcm, fun j hj => ?_, fun j hj => World.ownsRow.frozenAt h' j⟩
    have h2 := pcells_at rs j hj
    exact ⟨(World.ownsRow.cellAt h' (j * 2) (by omega)).trans h2.1, (World.ownsRow.cellAt h' (j * 2 + 1) (by omega)).trans h2.2⟩
theorem OwnP.store {g c : Nat} {rs : List (Int × Int)} {a b k : Int} (h : OwnP w base (.slice (some ⟨g, 0, none⟩) (rs ++ [(a, b)]).length c) (rs ++ [(a, b)])) :
    OwnP (w.setCell ⟨g, rs.length * 2 + 1, none⟩ (.int .i64 k)) base (.slice (some ⟨g, 0, none⟩) (rs ++ [(a, b)]).length c) (rs ++ [(a, k)]) := by
  have := (World.ownsRow.stored h (rs.length * 2 + 1) (.int .i64 k)).1
  have e : (pcells (rs ++ [(a, b)])).set (rs.length * 2 + 1) (.int .i64 k) = pcells (rs ++ [(a, k)]) := by
    rw [pcells_append, pcells_append, List.set_append_right _ _ (by rw [pcells_len]; omega), pcells_len]
    simp [pcells]
  rw [e] at this
  unfold OwnP
  have hl : (rs ++ [(a, k)]).length = (rs ++ [(a, b)]).length := by simp
  rw [hl]; exact this
end

theorem infoP : (Try.prog.info? 50).map (fun i => (i.zero, i.size, i.bytes)) = some (some (.agg #[.int .i64 0, .int .i64 0]), 2, 16) := by kernel_rfl
/-- out = append(out, [2]int{a, b}). -/
theorem app_pair {w : World} {ops : Array Oper} {rest : List Oper} {o : Oper} {a : Act} {Q : Exit → Act → World → Prop} (hgd : o.guard = none) (s x : Operand)
    (ho : o.op = .call { callee := .builtin .append, args := #[s, x], argTypes := #[47, 47] })
    (base : Nat) (v : Value) (rs : List (Int × Int)) (p q : Int) (hs : a.eval s = v) (hown : OwnP w base v rs)
    (ad : Addr) (c : Nat) (hx : a.eval x = .slice (some ad) 1 c) (hc : w.cell? ad = some (.int .i64 p)) (hc2 : w.cell? (ad.add 1) = some (.int .i64 q)) (hlen : rs.length ≤ 1000000) (hbase : base ≤ w.heap.size)
    (h : ∀ v' w', OwnP w' base v' (rs ++ [(p, q)]) → Below base w w' → wpList Try.prog ops Q rest (a.put o.dst v') w') : wpList Try.prog ops Q (o :: rest) a w := by
  obtain ⟨i0, hi0, hz0, hz1, hz2⟩ := info_parts infoP
  refine wpList_append_own w hgd s x 47 ho base 50 i0 _ 2 16 Try.underlying47 hi0 hz0 hz1 hz2 rfl (by decide) v rs.length _ hs hown ad 1 c [.int .i64 p, .int .i64 q] hx rfl ?_ ?_ (by simp only [maxLen]; omega) (by omega) hbase ?_
  · intro j u hu
    rcases j with _ | _ | j
    · simp at hu; subst hu; simpa [Addr.add] using hc
    · simp at hu; subst hu; exact hc2
    · simp at hu
  · intro u hu; simp at hu; rcases hu with rfl | rfl <;> rfl
  · intro v' w' hown' hg _
    refine h v' w' (by unfold OwnP; rw [pcells_append]; simpa [pcells] using hown') ((Below.refl _ _).grown hg hbase fun g hg' => (hown.block hg').1)
end Go.Proofs.Ytoldjpnkgdhpkaa
