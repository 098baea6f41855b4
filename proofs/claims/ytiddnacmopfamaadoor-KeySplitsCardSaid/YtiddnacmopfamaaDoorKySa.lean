/- Rows of values of a call's own: one value more; the values of a compound key, read by both. -/
import Derived.Test.YtiddnacmopfamaaDoorKyDe
import Derived.Test.YtiddnacmopfamaaDoorKyRow
import Derived.Deep.RegionHeld3
namespace Go.Proofs.YtiddnacmopfamaaDoor
open Go.RowKit
set_option linter.unusedVariables false
set_option linter.unusedSimpArgs false
set_option maxRecDepth 40000

abbrev V3 := Int × Int × ByteArray
def v3C (t : V3) : List Value := [.int .i64 t.1, .int .i64 t.2.1, .string t.2.2]
def v3L (vs : List V3) : List Value := vs.flatMap v3C
theorem v3L_len (vs : List V3) : (v3L vs).length = vs.length * 3 := by
  induction vs with
  | nil => rfl
  | cons a t ih => simp [v3L, v3C] at ih ⊢; omega
theorem v3L_app (a b : List V3) : v3L (a ++ b) = v3L a ++ v3L b := by simp [v3L]
def nilV : V3 := (0, 0, nos)
theorem v3L_get : ∀ (vs : List V3) (j : Nat), j < vs.length → (v3L vs)[j * 3]? = some (.int .i64 (vs.getD j nilV).1) ∧ (v3L vs)[j * 3 + 1]? = some (.int .i64 (vs.getD j nilV).2.1) ∧ (v3L vs)[j * 3 + 2]? = some (.string (vs.getD j nilV).2.2)
  | [], j, h => by simp at h
  | a :: t, 0, _ => by simp [v3L, v3C]
  | a :: t, j + 1, h => by
    have ih := v3L_get t j (by simpa using h)
    have e : v3L (a :: t) = v3C a ++ v3L t := rfl
    have hl : (v3C a).length = 3 := rfl
    have e1 : (j + 1) * 3 = 3 + j * 3 := by omega
    have e2 : (j + 1) * 3 + 1 = 3 + (j * 3 + 1) := by omega
    have e3 : (j + 1) * 3 + 2 = 3 + (j * 3 + 2) := by omega
    rw [e, e2, e3, e1, List.getElem?_append_right (by omega), List.getElem?_append_right (by omega), List.getElem?_append_right (by omega), hl]
    simpa using ih

/-- The cells of a value within a row. -/
def VCellAt (w : World) (g o : Nat) (t : V3) : Prop := w.cell? ⟨g, o, none⟩ = some (.int .i64 t.1) ∧ w.cell? ⟨g, o + 1, none⟩ = some (.int .i64 t.2.1) ∧ w.cell? ⟨g, o + 2, none⟩ = some (.string t.2.2)
theorem VCellAt.below {w w' : World} {g o B : Nat} {t : V3} (h : VCellAt w g o t) (hb : Below B w w') (hg : g < B) : VCellAt w' g o t :=
  ⟨(hb.cell (p := ⟨g, o, none⟩) hg).trans h.1, (hb.cell (p := ⟨g, o + 1, none⟩) hg).trans h.2.1, (hb.cell (p := ⟨g, o + 2, none⟩) hg).trans h.2.2⟩

theorem add0 (g n : Nat) : (⟨g, 0, none⟩ : Addr).add n = ⟨g, n, none⟩ := by
  unfold Addr.add
  by_cases h : n = 0 <;> simp [h]
/-- v is a slice of values of the call's own, in blocks from base on. -/
def OwnV (w : World) (base : Nat) (v : Value) (vs : List V3) : Prop := w.ownsRow base 23 3 v vs.length (v3L vs)
section
variable {w w' : World} {base : Nat} {v : Value} {vs : List V3}
theorem OwnV.nil (w : World) (base : Nat) : OwnV w base (.slice none 0 0) [] := ⟨by simp [v3L], .inl ⟨rfl, rfl⟩⟩
theorem OwnV.alloc (h : OwnV w base v vs) (o : Obj) : OwnV (w.alloc o) base v vs := World.ownsRow.alloc h o
theorem OwnV.block (h : OwnV w base v vs) {g : Nat} (hg : v.ownBlock = some g) : base ≤ g ∧ g < w.heap.size := by
  rcases h.2 with ⟨rfl, _⟩ | ⟨g', cap, cur, rfl, hb, hh, _⟩
  · simp [Value.ownBlock] at hg
  · have : g' = g := by simpa [Value.ownBlock] using hg
    subst this
    refine ⟨hb, ?_⟩
    rcases Nat.lt_or_ge g' w.heap.size with hlt | hge
    · exact hlt
    · rw [Array.getElem?_eq_none hge] at hh; cases hh
theorem OwnV.below {B : Nat} (h : OwnV w base v vs) (hb : Below B w w') (hB : w.heap.size ≤ B) : OwnV w' base v vs := by
  refine ⟨h.1, ?_⟩
  rcases h.2 with hn | ⟨g', cap, cur, hv, hb', hh, rest⟩
  · exact .inl hn
  · refine .inr ⟨g', cap, cur, hv, hb', ?_, rest⟩
    have hlt : g' < w.heap.size := by
      rcases Nat.lt_or_ge g' w.heap.size with hlt | hge
      · exact hlt
      · rw [Array.getElem?_eq_none hge] at hh; cases hh
    rw [hb.block g' (by omega), hh]
/-- The cells of such a slice. -/
theorem OwnV.out (h : OwnV w base v vs) : ∃ A c, v = .slice A vs.length c ∧ ∀ j, j < vs.length → ∃ g, A = some ⟨g, 0, none⟩ ∧ VCellAt w g (j * 3) (vs.getD j nilV) ∧ g < w.heap.size := by
  have h' := h
  rcases h.2 with ⟨rfl, hn⟩ | ⟨g', cap, cur, rfl, hb', hh, hnc, hcm, _⟩
  · exact ⟨none, 0, by rw [hn], fun j hj => by omega⟩
  · refine ⟨some ⟨g', 0, none⟩, cap, rfl, fun j hj => ⟨g', rfl, ?_, ?_⟩⟩
    · have hc := World.ownsRow.cells h' (g := g') rfl
      obtain ⟨e1, e2, e3⟩ := v3L_get vs j hj
      have c1 := hc _ _ e1
      have c2 := hc _ _ e2
      have c3 := hc _ _ e3
      rw [add0] at c1 c2 c3
      exact ⟨c1, c2, c3⟩
    · rcases Nat.lt_or_ge g' w.heap.size with hlt | hge
      · exact hlt
      · rw [Array.getElem?_eq_none hge] at hh; cases hh
end
theorem infoV : (Tryd.prog.info? 23).map (fun i => (i.zero, i.size, i.bytes)) = some (some (.agg #[.int .i64 0, .int .i64 0, .string ⟨#[]⟩]), 3, 32) := by kernel_rfl

/-- out = append(out, v) of values. -/
theorem app_val {w : World} {ops : Array Oper} {rest : List Oper} {o : Oper} {a : Act} {Q : Exit → Act → World → Prop} (hgd : o.guard = none) (s x : Operand)
    (ho : o.op = .call { callee := .builtin .append, args := #[s, x], argTypes := #[47, 47] })
    (base : Nat) (v : Value) (vs : List V3) (t : V3) (hs : a.eval s = v) (hown : OwnV w base v vs)
    (g : Nat) (c : Nat) (hx : a.eval x = .slice (some ⟨g, 0, none⟩) 1 c) (hc : VCellAt w g 0 t) (hlen : vs.length ≤ 1000000) (hbase : base ≤ w.heap.size)
    (h : ∀ v' w', OwnV w' base v' (vs ++ [t]) → Below base w w' → w.grownBy w' v.ownBlock → wpList Tryd.prog ops Q rest (a.put o.dst v') w') : wpList Tryd.prog ops Q (o :: rest) a w := by
  obtain ⟨i0, hi0, hz0, hz1, hz2⟩ := info_parts infoV
  refine wpList_append_own w hgd s x 47 ho base 23 i0 _ 3 32 Tryd.underlying47 hi0 hz0 hz1 hz2 rfl (by decide) v vs.length _ hs hown ⟨g, 0, none⟩ 1 c (v3C t) hx rfl ?_ ?_ (by simp only [maxLen]; omega) (by omega) hbase ?_
  · intro j u hu
    rcases j with _ | _ | _ | j
    · simp [v3C] at hu; subst hu; simpa [Addr.add] using hc.1
    · simp [v3C] at hu; subst hu; simpa [Addr.add] using hc.2.1
    · simp [v3C] at hu; subst hu; simpa [Addr.add] using hc.2.2
    · simp [v3C] at hu
  · intro u hu
    simp [v3C] at hu
    rcases hu with rfl | rfl | rfl <;> rfl
  · intro v' w' hown' hg _
    exact h v' w' (by unfold OwnV; rw [v3L_app]; simpa [v3L] using hown') ((Below.refl _ _).grown hg hbase fun g hg' => (hown.block hg').1) hg

/-- The values of a compound key. -/
def splF : ByteArray → List Bool → List V3 → List V3 × Int
  | x, [], acc => if x.toList.isEmpty = true then (acc, 0) else ([], 11)
  | x, d :: ds, acc => if x.toList.isEmpty = true then ([], 10) else
    match decO (turnS d x).data.toList with
    | none => ([], 11)
    | some r => splF (x.extract r.2.2.2 x.size) ds (acc ++ [(r.1, r.2.1, r.2.2.1)])
/-- Values and an error as an answer. -/
def SRes (w : World) (r : List V3 × Int) (e : Ending) (w' : World) : Prop := ∃ v, e = .returned (.tuple #[v, .int .i64 r.2]) ∧ OwnV w' w.heap.size v r.1 ∧ Below w.heap.size w w'
theorem SRes.of {w w' : World} {r : List V3 × Int} {vs : List V3} {u : Int} {v : Value} (hr : r = (vs, u)) (ho : OwnV w' w.heap.size v vs) (hb : Below w.heap.size w w') : SRes w r (.returned (.tuple #[v, .int .i64 u])) w' := by
  subst hr
  exact ⟨v, rfl, ho, hb⟩
theorem numO_bd {u : Nat} {l : List UInt8} {x : Int × Int × ByteArray × Nat} (h : numO u l = some x) : 0 < x.2.2.2 ∧ x.2.2.2 ≤ l.length + 1 := by
  unfold numO at h
  split at h
  · cases h
  · split at h
    · cases h; simp only; omega
    · cases h
theorem decO_bd {l : List UInt8} {x : Int × Int × ByteArray × Nat} (h : decO l = some x) : 0 < x.2.2.2 ∧ x.2.2.2 ≤ l.length := by
  unfold decO at h
  split at h
  · cases h
  · rename_i hne
    have hl : 0 < l.length := List.length_pos_iff.2 hne
    split at h
    · unfold txO compT at h
      cases hd : decT (l.drop 1) with
      | none => rw [hd] at h; simp at h
      | some y =>
        have hb := (decT_len _ _ (Nat.le_refl _) y hd).2
        rw [List.length_drop] at hb
        rw [hd] at h
        simp only [Option.map_some] at h
        split at h
        · cases h; simp only; omega
        · cases h
    · have := numO_bd h
      rw [List.length_drop] at this
      omega
theorem drop_cons {ds : List Bool} {j : Nat} (h : j < ds.length) : ds.drop j = ds.getD j false :: ds.drop (j + 1) := by
  rw [List.drop_eq_getElem_cons h]; simp [List.getD, h]
theorem splF_nil {x : ByteArray} {ds : List Bool} {acc : List V3} {j : Nat} (h : j < ds.length) (hx : x.toList.isEmpty = true) : splF x (ds.drop j) acc = ([], 10) := by
  rw [drop_cons h, splF, if_pos hx]
theorem splF_no {x : ByteArray} {ds : List Bool} {acc : List V3} {j : Nat} (h : j < ds.length) (hx : x.toList.isEmpty = false) (hd : decO (turnS (ds.getD j false) x).data.toList = none) : splF x (ds.drop j) acc = ([], 11) := by
  rw [drop_cons h, splF, if_neg (by rw [hx]; simp), hd]
theorem splF_yes {x : ByteArray} {ds : List Bool} {acc : List V3} {j : Nat} {k n : Int} {t : ByteArray} {m : Nat} (h : j < ds.length) (hx : x.toList.isEmpty = false) (hd : decO (turnS (ds.getD j false) x).data.toList = some (k, n, t, m)) : splF x (ds.drop j) acc = splF (x.extract m x.size) (ds.drop (j + 1)) (acc ++ [(k, n, t)]) := by
  rw [drop_cons h, splF, if_neg (by rw [hx]; simp), hd]
theorem splF_end {x : ByteArray} {ds : List Bool} {acc : List V3} : splF x (ds.drop ds.length) acc = if x.toList.isEmpty = true then (acc, 0) else ([], 11) := by
  rw [List.drop_length, splF]
theorem splF_len : ∀ (x : ByteArray) (ds : List Bool) (acc : List V3), (splF x ds acc).1.length ≤ acc.length + ds.length
  | x, [], acc => by rw [splF]; split <;> simp
  | x, d :: ds, acc => by
    rw [splF]
    split
    · simp
    · cases hd : decO (turnS d x).data.toList with
      | none => simp
      | some r =>
        have := splF_len (x.extract r.2.2.2 x.size) ds (acc ++ [(r.1, r.2.1, r.2.2.1)])
        simp at this ⊢
        omega
theorem ext_size (x : ByteArray) (m : Nat) : (x.extract m x.size).size ≤ x.size := by
  rw [ByteArray.size_extract]; omega

set_option maxHeartbeats 8000000 in
theorem Split_any (s : ByteArray) (A : Option Addr) (ds : List Bool) (cap : Nat) (w : World) (hs : s.size ≤ 200000) (hl : ds.length ≤ 100000) (hr : RdB w A ds) :
    Calls Tryd.prog 28 #[.string s, .slice A ds.length cap] w (SRes w (splF s ds [])) := by
  have HR := Lib.hid hr; clear hr
  obtain ⟨r, hrr⟩ : ∃ r, r = splF s ds [] := ⟨_, rfl⟩
  rw [← hrr]
  have HRR := Lib.hid hrr; clear hrr
  go_enter Tryd.func28, Tryd.ntmps28
  go_wp2_with fail
  go_loopw [0, 6, 14] (fun k o i wr => ∃ (j : Nat) (x : ByteArray) (acc : List V3), j ≤ ds.length ∧ k = .string x ∧ i = .int .i64 j ∧ x.size ≤ 200000 ∧ acc.length ≤ j ∧ OwnV wr w.heap.size o acc ∧ Hid (r = splF x (ds.drop j) acc) ∧ Below w.heap.size w wr) (fun _ _ i _ => ds.length - (intOf i).toNat)
  case atStart => exact ⟨0, s, [], by omega, rfl, rfl, hs, by simp, OwnV.nil _ _, HRR, Below.refl _ _⟩
  case round =>
    obtain ⟨j, x, acc, hj, rfl, rfl, hx, hacc, hown, HREL, hbel⟩ := hrel
    have HO := Lib.hid hown; clear hown
    have HB := Lib.hid hbel; clear hbel
    by_cases hlt : j < ds.length
    · obtain ⟨ad, rfl, hbad, hcl⟩ := HR.out j hlt
      have hcell := (HB.out.cell (p := ad.add j) (by rw [block_of_plus]; exact hbad)).trans hcl
      clear hcl
      cases hem : x.toList.isEmpty
      · have HT := Lib.hid (fun W => turned_any x (ds.getD j false) W hx)
        have hz := turnS_size (ds.getD j false) x
        have HD := Lib.hid (fun W => decode_any (turnS (ds.getD j false) x) W (by omega))
        have HNO := Lib.hid (fun h => splF_no (acc := acc) hlt hem h)
        have HYES : Hid (∀ k n t m, decO (turnS (ds.getD j false) x).data.toList = some (k, n, t, m) → splF x (ds.drop j) acc = splF (x.extract m x.size) (ds.drop (j + 1)) (acc ++ [(k, n, t)]) ∧ 0 < m ∧ m ≤ x.size) := Lib.hid (fun k n t m h => ⟨splF_yes hlt hem h, by have := decO_bd h; have h2 : (turnS (ds.getD j false) x).data.toList.length = (turnS (ds.getD j false) x).size := rfl; simp only at this; omega⟩)
        clear hz
        generalize turnS (ds.getD j false) x = y at *
        generalize decO y.data.toList = od at *
        generalize ds.getD j false = d at *
        go_wp2_with fail
        refine (HT.out _).mono ?_
        rintro e w1 ⟨rfl, hb1⟩
        have HB1 := Lib.hid (HB.out.trans (hb1.mono HB.out.size))
        have HO1 := Lib.hid (HO.out.below hb1 (Nat.le_refl _)); clear hb1
        go_wp2_with fail
        refine (HD.out _).mono ?_
        rintro e w2 ⟨k, n, t, m, b, rfl, hb2, hcs⟩
        have HB2 := Lib.hid (HB1.out.trans (hb2.mono HB1.out.size))
        have HO2 := Lib.hid (HO1.out.below hb2 (Nat.le_refl _)); clear hb2
        rcases hcs with ⟨rfl, ho⟩ | ⟨rfl, ho⟩
        · obtain ⟨hy1, hy2, hy3⟩ := HYES.out k n t m ho
          have HY := Lib.hid hy1
          clear ho hy1
          have i1 : (0 : Int) ≤ m := by omega
          have i2 : (m : Int) ≤ x.size := by omega
          have hzx := ext_size x m
          have HC : Hid (VCellAt ((w2.alloc (.cells #[.int .i64 k, .int .i64 n, .string t] 23)).alloc (.cells #[.int .i64 k, .int .i64 n, .string t] 23)) (w2.heap.size + 1) 0 (k, n, t)) := Lib.hid (by
            have h := VCell.new (w2.alloc (.cells #[.int .i64 k, .int .i64 n, .string t] 23)) k n t 23
            have e : (w2.alloc (.cells #[.int .i64 k, .int .i64 n, .string t] 23)).heap.size = w2.heap.size + 1 := by simp
            rw [e] at h
            exact ⟨h.1, h.2.1, h.2.2.1⟩)
          have HO3 := Lib.hid ((HO2.out.alloc (.cells #[.int .i64 k, .int .i64 n, .string t] 23)).alloc (.cells #[.int .i64 k, .int .i64 n, .string t] 23))
          have HB3 := Lib.hid ((HB2.out.alloc HB2.out.size (.cells #[.int .i64 k, .int .i64 n, .string t] 23)).alloc (size_alloc HB2.out.size _) (.cells #[.int .i64 k, .int .i64 n, .string t] 23))
          go_wp2_with (at_builtin; refine app_val rfl (.tmp 30) (.tmp 32) rfl w.heap.size _ _ (k, n, t) rfl HO3.out _ 1 rfl HC.out (by omega) HB3.out.size ?_; intro v4 w4 ho4 hb4 _; have HO4 := Lib.hid ho4; have HB4 := Lib.hid (HB3.out.trans hb4); clear ho4 hb4)
          go_roundw
          case rel => exact ⟨j + 1, _, _, by omega, rfl, by go_num, by omega, by simp; omega, HO4.out, Lib.hid (by rw [HREL.out, HY.out]), HB4.out⟩
          case measure => simp [intOf]; omega
        · have HE : Hid (r = ([], 11)) := Lib.hid (by rw [HREL.out]; exact HNO.out ho)
          clear ho
          go_wp2_with fail
          go_ret2
          exact ⟨.slice none 0 0, by obtain rfl := HE.out; rfl, by obtain rfl := HE.out; exact OwnV.nil _ _, HB2.out.alloc HB2.out.size _⟩
      · have HE : Hid (r = ([], 10)) := Lib.hid (by rw [HREL.out]; exact splF_nil hlt hem)
        go_wp2_with fail
        go_ret2
        exact ⟨.slice none 0 0, by obtain rfl := HE.out; rfl, by obtain rfl := HE.out; exact OwnV.nil _ _, HB.out⟩
    · have hjl : j = ds.length := by omega
      have HE : Hid (r = if x.toList.isEmpty = true then (acc, 0) else ([], 11)) := Lib.hid (by rw [HREL.out, hjl]; exact splF_end)
      clear hjl
      cases hem : x.toList.isEmpty
      · rw [hem, if_neg (by simp)] at HE
        go_wp2_with fail
        go_ret2
        exact ⟨.slice none 0 0, by obtain rfl := HE.out; rfl, by obtain rfl := HE.out; exact OwnV.nil _ _, HB.out⟩
      · rw [hem, if_pos rfl] at HE
        go_wp2_with fail
        go_ret2
        exact SRes.of HE.out HO.out HB.out
end Go.Proofs.YtiddnacmopfamaaDoor
