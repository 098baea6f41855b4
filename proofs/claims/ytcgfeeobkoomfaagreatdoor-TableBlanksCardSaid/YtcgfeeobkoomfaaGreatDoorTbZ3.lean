/- Rows of values of a call's own; the empty value of a field in both. -/
import Derived.Test.YtcgfeeobkoomfaaGreatDoorTbZ2
import Derived.Deep.RegionHeldLaw
import Derived.Deep.RegionHeld3
namespace Go.Proofs.YtcgfeeobkoomfaaGreatDoor
open Go.RowKit
set_option linter.unusedVariables false
set_option linter.unusedSimpArgs false
set_option maxRecDepth 40000

abbrev V3 := Int × Int × ByteArray
def v3C (t : V3) : List Value := [.int .i64 t.1, .int .i64 t.2.1, .string t.2.2]
def v3L (vs : List V3) : List Value := vs.flatMap v3C
theorem v3L_len (vs : List V3) : (v3L vs).length = vs.length * 3 := by
  induction vs with
  | nil => rfl
  | cons a t ih => simp [v3L, v3C] at ih ⊢; omega
theorem v3L_app (a b : List V3) : v3L (a ++ b) = v3L a ++ v3L b := by simp [v3L]
def nilV : V3 := (0, 0, nos)
theorem v3L_get : ∀ (vs : List V3) (j : Nat), j < vs.length → (v3L vs)[j * 3]? = some (.int .i64 (vs.getD j nilV).1) ∧ (v3L vs)[j * 3 + 1]? = some (.int .i64 (vs.getD j nilV).2.1) ∧ (v3L vs)[j * 3 + 2]? = some (.string (vs.getD j nilV).2.2)
  | [], j, h => by simp at h
  | a :: t, 0, _ => by simp [v3L, v3C]
  | a :: t, j + 1, h => by
    have ih := v3L_get t j (by simpa using h)
    have e : v3L (a :: t) = v3C a ++ v3L t := rfl
    have hl : (v3C a).length = 3 := rfl
    have e1 : (j + 1) * 3 = 3 + j * 3 := by omega
    have e2 : (j + 1) * 3 + 1 = 3 + (j * 3 + 1) := by omega
    have e3 : (j + 1) * 3 + 2 = 3 + (j * 3 + 2) := by omega
    rw [e, e2, e3, e1, List.getElem?_append_right (by omega), List.getElem?_append_right (by omega), List.getElem?_append_right (by omega), hl]
    simpa using ih

/-- The cells of a value within a row. -/
def VCellAt (w : World) (g o : Nat) (t : V3) : Prop := w.cell? ⟨g, o, none⟩ = some (.int .i64 t.1) ∧ w.cell? ⟨g, o + 1, none⟩ = some (.int .i64 t.2.1) ∧ w.cell? ⟨g, o + 2, none⟩ = some (.string t.2.2)
theorem VCellAt.below {w w' : World} {g o B : Nat} {t : V3} (h : VCellAt w g o t) (hb : Below B w w') (hg : g < B) : VCellAt w' g o t :=
  ⟨(hb.cell (p := ⟨g, o, none⟩) hg).trans h.1, (hb.cell (p := ⟨g, o + 1, none⟩) hg).trans h.2.1, (hb.cell (p := ⟨g, o + 2, none⟩) hg).trans h.2.2⟩

theorem add0 (g n : Nat) : (⟨g, 0, none⟩ : Addr).add n = ⟨g, n, none⟩ := by
  unfold Addr.add
  by_cases h : n = 0 <;> simp [h]
/-- v is a slice of values of the call's own, in blocks from base on. -/
def OwnV (w : World) (base : Nat) (v : Value) (vs : List V3) : Prop := w.ownsRow base 51 3 v vs.length (v3L vs)
section
variable {w w' : World} {base : Nat} {v : Value} {vs : List V3}
theorem OwnV.nil (w : World) (base : Nat) : OwnV w base (.slice none 0 0) [] := ⟨by simp [v3L], .inl ⟨rfl, rfl⟩⟩
theorem OwnV.alloc (h : OwnV w base v vs) (o : Obj) : OwnV (w.alloc o) base v vs := World.ownsRow.alloc h o
theorem OwnV.block (h : OwnV w base v vs) {g : Nat} (hg : v.ownBlock = some g) : base ≤ g ∧ g < w.heap.size := by
  rcases h.2 with ⟨rfl, _⟩ | ⟨g', cap, cur, rfl, hb, hh, _⟩
  · simp [Value.ownBlock] at hg
  · have : g' = g := by simpa [Value.ownBlock] using hg
    subst this
    refine ⟨hb, ?_⟩
    rcases Nat.lt_or_ge g' w.heap.size with hlt | hge
    · exact hlt
    · rw [Array.getElem?_eq_none hge] at hh; cases hh
theorem OwnV.below {B : Nat} (h : OwnV w base v vs) (hb : Below B w w') (hB : w.heap.size ≤ B) : OwnV w' base v vs := by
  refine ⟨h.1, ?_⟩
  rcases h.2 with hn | ⟨g', cap, cur, hv, hb', hh, rest⟩
  · exact .inl hn
  · refine .inr ⟨g', cap, cur, hv, hb', ?_, rest⟩
    have hlt : g' < w.heap.size := by
      rcases Nat.lt_or_ge g' w.heap.size with hlt | hge
      · exact hlt
      · rw [Array.getElem?_eq_none hge] at hh; cases hh
    rw [hb.block g' (by omega), hh]
/-- The cells of such a slice. -/
theorem OwnV.out (h : OwnV w base v vs) : ∃ A c, v = .slice A vs.length c ∧ ∀ j, j < vs.length → ∃ g, A = some ⟨g, 0, none⟩ ∧ VCellAt w g (j * 3) (vs.getD j nilV) ∧ g < w.heap.size := by
  have h' := h
  rcases h.2 with ⟨rfl, hn⟩ | ⟨g', cap, cur, rfl, hb', hh, hnc, hcm, _⟩
  · exact ⟨none, 0, by rw [hn], fun j hj => by omega⟩
  · refine ⟨some ⟨g', 0, none⟩, cap, rfl, fun j hj => ⟨g', rfl, ?_, ?_⟩⟩
    · have hc := World.ownsRow.cells h' (g := g') rfl
      obtain ⟨e1, e2, e3⟩ := v3L_get vs j hj
      have c1 := hc _ _ e1
      have c2 := hc _ _ e2
      have c3 := hc _ _ e3
      rw [add0] at c1 c2 c3
      exact ⟨c1, c2, c3⟩
    · rcases Nat.lt_or_ge g' w.heap.size with hlt | hge
      · exact hlt
      · rw [Array.getElem?_eq_none hge] at hh; cases hh
end
theorem infoV : (Tryz.prog.info? 51).map (fun i => (i.zero, i.size, i.bytes)) = some (some (.agg #[.int .i64 0, .int .i64 0, .string ⟨#[]⟩]), 3, 32) := by kernel_rfl

/-- out = append(out, v) of values. -/
theorem app_val {w : World} {ops : Array Oper} {rest : List Oper} {o : Oper} {a : Act} {Q : Exit → Act → World → Prop} (hgd : o.guard = none) (s x : Operand)
    (ho : o.op = .call { callee := .builtin .append, args := #[s, x], argTypes := #[57, 57] })
    (base : Nat) (v : Value) (vs : List V3) (t : V3) (hs : a.eval s = v) (hown : OwnV w base v vs)
    (g : Nat) (c : Nat) (hx : a.eval x = .slice (some ⟨g, 0, none⟩) 1 c) (hc : VCellAt w g 0 t) (hlen : vs.length ≤ 1000000) (hbase : base ≤ w.heap.size)
    (h : ∀ v' w', OwnV w' base v' (vs ++ [t]) → Below base w w' → w.grownBy w' v.ownBlock → wpList Tryz.prog ops Q rest (a.put o.dst v') w') : wpList Tryz.prog ops Q (o :: rest) a w := by
  obtain ⟨i0, hi0, hz0, hz1, hz2⟩ := info_parts infoV
  refine wpList_append_own w hgd s x 57 ho base 51 i0 _ 3 32 Tryz.underlying57 hi0 hz0 hz1 hz2 rfl (by decide) v vs.length _ hs hown ⟨g, 0, none⟩ 1 c (v3C t) hx rfl ?_ ?_ (by simp only [maxLen]; omega) (by omega) hbase ?_
  · intro j u hu
    rcases j with _ | _ | _ | j
    · simp [v3C] at hu; subst hu; simpa [Addr.add] using hc.1
    · simp [v3C] at hu; subst hu; simpa [Addr.add] using hc.2.1
    · simp [v3C] at hu; subst hu; simpa [Addr.add] using hc.2.2
    · simp [v3C] at hu
  · intro u hu
    simp [v3C] at hu
    rcases hu with rfl | rfl | rfl <;> rfl
  · intro v' w' hown' hg _
    exact h v' w' (by unfold OwnV; rw [v3L_app]; simpa [v3L] using hown') ((Below.refl _ _).grown hg hbase fun g hg' => (hown.block hg').1) hg


/-- .. as one step of a region that draws its order. -/
theorem step_val {w : World} {ops : Array Oper} {o : Oper} {a : Act} {K : Act → World → Prop} {Q : Exit → Act → World → Prop} {E : Prop} (hgd : o.guard = none) (s x : Operand)
    (ho : o.op = .call { callee := .builtin .append, args := #[s, x], argTypes := #[57, 57] })
    (base : Nat) (v : Value) (vs : List V3) (t : V3) (hs : a.eval s = v) (hown : OwnV w base v vs)
    (g : Nat) (c : Nat) (hx : a.eval x = .slice (some ⟨g, 0, none⟩) 1 c) (hc : VCellAt w g 0 t) (hlen : vs.length ≤ 1000000) (hbase : base ≤ w.heap.size)
    (h : ∀ v' w', OwnV w' base v' (vs ++ [t]) → Below base w w' → w.grownBy w' v.ownBlock → K (a.put o.dst v') w') :
    if Region.wanted o (yielded ops a.tmps) = true then Oper.wp Tryz.prog o a w K Q else E := by
  have hw : Region.wanted o (yielded ops a.tmps) = true := by simp [Region.wanted, hgd]
  rw [if_pos hw]
  obtain ⟨i0, hi0, hz0, hz1, hz2⟩ := info_parts infoV
  refine wp_append_own w s x 57 ho base 51 i0 _ 3 32 Tryz.underlying57 hi0 hz0 hz1 hz2 rfl (by decide) v vs.length _ hs hown ⟨g, 0, none⟩ 1 c (v3C t) hx rfl ?_ ?_ (by simp only [maxLen]; omega) (by omega) hbase ?_
  · intro j u hu
    rcases j with _ | _ | _ | j
    · simp [v3C] at hu; subst hu; simpa [Addr.add] using hc.1
    · simp [v3C] at hu; subst hu; simpa [Addr.add] using hc.2.1
    · simp [v3C] at hu; subst hu; simpa [Addr.add] using hc.2.2
    · simp [v3C] at hu
  · intro u hu
    simp [v3C] at hu
    rcases hu with rfl | rfl | rfl <;> rfl
  · intro v' w' hown' hg _
    exact h v' w' (by unfold OwnV; rw [v3L_app]; simpa [v3L] using hown') ((Below.refl _ _).grown hg hbase fun g hg' => (hown.block hg').1) hg

theorem blankOf_any (nm : ByteArray) (k wd : Int) (nu : Bool) (w : World) : Calls Tryz.prog 76 #[fv nm k wd nu] w fun e w' => e = .returned (vv (kofN k) 0 nos) ∧ Below w.heap.size w w' := by
  have CK := Lib.hid (fun W => kindOf_any nm k wd nu W)
  have hb0 : Below w.heap.size w ((w.alloc (.cells #[.string nm, .int .i64 k, .int .i64 wd, .bool nu] 49)).alloc (.cells #[.int .i64 0, .int .i64 0, .string ⟨#[]⟩] 51)) := ((Below.refl _ _).alloc (Nat.le_refl _) _).alloc (by simp) _
  have HB0 := Lib.hid hb0; clear hb0
  have z0 := Lib.hid (show w.heap.size + 1 < ((w.alloc (.cells #[.string nm, .int .i64 k, .int .i64 wd, .bool nu] 49)).alloc (.cells #[.int .i64 0, .int .i64 0, .string ⟨#[]⟩] 51)).heap.size by simp)
  generalize kofN k = kk at *
  go_enter Tryz.func76, Tryz.ntmps76
  go_wp2_with fail
  refine (CK.out _).mono ?_
  rintro e w1 ⟨rfl, hb1⟩
  have r0 : w1.cell? ⟨w.heap.size + 1, 0, none⟩ = some (.int .i64 0) := (hb1.cell (p := ⟨w.heap.size + 1, 0, none⟩) z0.out).trans (by simp [go_sem])
  have r1 : w1.cell? ⟨w.heap.size + 1, 1, none⟩ = some (.int .i64 0) := (hb1.cell (p := ⟨w.heap.size + 1, 1, none⟩) z0.out).trans (by simp [go_sem])
  have r2 : w1.cell? ⟨w.heap.size + 1, 2, none⟩ = some (.string ⟨#[]⟩) := (hb1.cell (p := ⟨w.heap.size + 1, 2, none⟩) z0.out).trans (by simp [go_sem])
  have f0 : w1.frozen? ⟨w.heap.size + 1, 0, none⟩ = false := (hb1.frozen (p := ⟨w.heap.size + 1, 0, none⟩) z0.out).trans (by simp [go_sem])
  have f1 : w1.frozen? ⟨w.heap.size + 1, 1, none⟩ = false := (hb1.frozen (p := ⟨w.heap.size + 1, 1, none⟩) z0.out).trans (by simp [go_sem])
  have f2 : w1.frozen? ⟨w.heap.size + 1, 2, none⟩ = false := (hb1.frozen (p := ⟨w.heap.size + 1, 2, none⟩) z0.out).trans (by simp [go_sem])
  have HB1 := Lib.hid (HB0.out.trans (hb1.mono HB0.out.size))
  clear hb1
  go_wp2_with fail
  exact bodyPost_ret (v := vv kk 0 nos) (by simp [results, Tryz.results76, go_sem, r0, r1, r2]) rfl ⟨rfl, ((HB1.out.setCell (by simp) _).setCell (by simp) _).setCell (by simp) _⟩

theorem Num0 (w : World) : Calls Tryz.prog 110 #[.int .i64 0] w fun e w' => e = .returned (vv 2 0 nos) ∧ Below w.heap.size w w' := by
  go_enter Tryz.func110, Tryz.ntmps110
  go_wp2_with fail
  exact bodyPost_ret (v := vv 2 0 nos) (by simp [results, Tryz.results110, go_sem]) rfl ⟨rfl, (Below.refl _ _).alloc (Nat.le_refl _) _⟩
theorem Empty_any (nm : ByteArray) (k wd : Int) (nu : Bool) (w : World) : Calls Tryz.prog 81 #[fv nm k wd nu] w fun e w' => e = .returned (vv (kofN k) 0 nos) ∧ Below w.heap.size w w' := by
  have CN := Lib.hid (fun W => Num0 W)
  have hb0 : Below w.heap.size w ((w.alloc (.cells #[.string nm, .int .i64 k, .int .i64 wd, .bool nu] 49)).alloc (.cells #[.int .i64 0, .int .i64 0, .string ⟨#[]⟩] 51)) := ((Below.refl _ _).alloc (Nat.le_refl _) _).alloc (by simp) _
  have HB0 := Lib.hid hb0; clear hb0
  have z0 := Lib.hid (show w.heap.size + 1 < ((w.alloc (.cells #[.string nm, .int .i64 k, .int .i64 wd, .bool nu] 49)).alloc (.cells #[.int .i64 0, .int .i64 0, .string ⟨#[]⟩] 51)).heap.size by simp)
  unfold kofN
  by_cases h5 : k = 5
  · subst h5
    rw [if_pos rfl]
    go_enter Tryz.func81, Tryz.ntmps81
    go_wp2_with fail
    refine (CN.out _).mono ?_
    rintro e w1 ⟨rfl, hb1⟩
    have r0 : w1.cell? ⟨w.heap.size + 1, 0, none⟩ = some (.int .i64 0) := (hb1.cell (p := ⟨w.heap.size + 1, 0, none⟩) z0.out).trans (by simp [go_sem])
    have r1 : w1.cell? ⟨w.heap.size + 1, 1, none⟩ = some (.int .i64 0) := (hb1.cell (p := ⟨w.heap.size + 1, 1, none⟩) z0.out).trans (by simp [go_sem])
    have r2 : w1.cell? ⟨w.heap.size + 1, 2, none⟩ = some (.string ⟨#[]⟩) := (hb1.cell (p := ⟨w.heap.size + 1, 2, none⟩) z0.out).trans (by simp [go_sem])
    have f0 : w1.frozen? ⟨w.heap.size + 1, 0, none⟩ = false := (hb1.frozen (p := ⟨w.heap.size + 1, 0, none⟩) z0.out).trans (by simp [go_sem])
    have f1 : w1.frozen? ⟨w.heap.size + 1, 1, none⟩ = false := (hb1.frozen (p := ⟨w.heap.size + 1, 1, none⟩) z0.out).trans (by simp [go_sem])
    have f2 : w1.frozen? ⟨w.heap.size + 1, 2, none⟩ = false := (hb1.frozen (p := ⟨w.heap.size + 1, 2, none⟩) z0.out).trans (by simp [go_sem])
    have HB1 := Lib.hid (HB0.out.trans (hb1.mono HB0.out.size))
    clear hb1
    go_wp2_with fail
    exact bodyPost_ret (v := vv 2 0 nos) (by simp [results, Tryz.results81, go_sem, r0, r1, r2]) rfl ⟨rfl, ((HB1.out.setCell (by simp) _).setCell (by simp) _).setCell (by simp) _⟩
  · rw [if_neg h5]
    have h5' : (k == 5) = false := by simpa using h5
    have H5 := Lib.hid h5
    clear h5
    go_enter Tryz.func81, Tryz.ntmps81
    go_wp2_with fail
    exact bodyPost_ret (v := vv k 0 nos) (by simp [results, Tryz.results81, go_sem]) rfl ⟨rfl, by first | exact ((Below.refl _ _).alloc (Nat.le_refl _) _).alloc (by simp) _ | exact (((((Below.refl _ _).alloc (Nat.le_refl _) _).alloc (by simp) _).setCell (by simp) _).setCell (by simp) _).setCell (by simp) _⟩
end Go.Proofs.YtcgfeeobkoomfaaGreatDoor
