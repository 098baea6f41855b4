/- The header of the known table. -/
import Derived.Test.YtcgfeeobkoomfaaGreatDoorTbO
import Derived.Laws.MakeOwn
import Derived.Lib.LazyBuf
namespace Go.Proofs.YtcgfeeobkoomfaaGreatDoor
open Go.RowKit
set_option linter.unusedVariables false
set_option linter.unusedSimpArgs false
set_option maxRecDepth 40000
theorem mc16 : madeCells (Value.int .u8 0).cells (Int.toNat 16 * 1) = #[.int .u8 0, .int .u8 0, .int .u8 0, .int .u8 0, .int .u8 0, .int .u8 0, .int .u8 0, .int .u8 0, .int .u8 0, .int .u8 0, .int .u8 0, .int .u8 0, .int .u8 0, .int .u8 0, .int .u8 0, .int .u8 0] := by
  apply Array.ext
  · simp [madeCells]
  · intro i h1 h2
    have h3 : i < 16 := by simpa using h2
    have : ∀ i, i < 16 → (#[Value.int .u8 0, .int .u8 0, .int .u8 0, .int .u8 0, .int .u8 0, .int .u8 0, .int .u8 0, .int .u8 0, .int .u8 0, .int .u8 0, .int .u8 0, .int .u8 0, .int .u8 0, .int .u8 0, .int .u8 0, .int .u8 0] : Array Value)[i]? = some (.int .u8 0) := by
      intro i hi
      rcases i with _ | _ | _ | _ | _ | _ | _ | _ | _ | _ | _ | _ | _ | _ | _ | _ | i <;> first | rfl | omega
    have h5 := this i h3
    rw [Array.getElem?_eq_getElem h2] at h5
    rw [Option.some.inj h5]
    simp [madeCells, Value.cells, Nat.mod_one]
theorem mk16 (W : World) : (Instr.makeSlice 37 (.int .i64 16) (.int .i64 16)).run Tryz.prog W = .ok (.slice (some ⟨W.heap.size, 0, none⟩) 16 16) (W.alloc (.cells #[.int .u8 0, .int .u8 0, .int .u8 0, .int .u8 0, .int .u8 0, .int .u8 0, .int .u8 0, .int .u8 0, .int .u8 0, .int .u8 0, .int .u8 0, .int .u8 0, .int .u8 0, .int .u8 0, .int .u8 0, .int .u8 0] 5)) := by
  obtain ⟨i0, hi0, hz0, hz1, hz2⟩ := info_parts info5
  have := run_makeSlice W 37 5 i0 _ Tryz.underlying37 hi0 hz0 .i64 .i64 16 16 (by omega) (by omega) (by rw [hz1]; decide) (by rw [hz2]; decide) (by omega)
  rw [this, hz1, mc16]; rfl
theorem cpA (g : Nat) (W : World) (hc : (W.cell? ⟨g, 0, none⟩).isSome = true) (hf : W.frozen? ⟨g, 0, none⟩ = false) : (Builtin.copy_ #[37, 9] 3 #[.slice (some ⟨g, 0, none⟩) 16 16, .string tA]).run Tryz.prog W = .ok (.int .i64 1) (W.setCell ⟨g, 0, none⟩ (.int .u8 65)) := by
  have hs : tA.size = 1 := by decide +kernel
  have h1 : ∀ j, j < tA.size → (W.cell? ⟨g, 0 + j, none⟩).isSome = true := fun j hj => by
    have : j = 0 := by omega
    subst this; exact hc
  have h2 : ∀ j, j < tA.size → W.frozen? ⟨g, 0 + j, none⟩ = false := fun j hj => by
    have : j = 0 := by omega
    subst this; exact hf
  have h := run_copy_string W 37 9 3 5 g 0 16 16 tA Tryz.underlying37 (fun w => by kernel_rfl) (by omega) h1 h2
  rw [h, hs]
  have e : (tA.data.toList.map fun x => Value.int .u8 (x.toNat : Int)) = [.int .u8 65] := by kernel_rfl
  rw [e]; rfl
def LenR (n : Nat) (w : World) (e : Ending) (w' : World) : Prop := ∃ A c, e = .returned (.slice A n c) ∧ Below w.heap.size w w'
set_option maxHeartbeats 8000000 in
theorem header_kt (bF bR bV : Nat) (w : World) (h : KT w bF bR bV) : Calls Tryz.prog 61 #[tv bF bR] w (LenR 29 w) := by
  have CL := Lib.hid (fun W hW => length_any bF 0 1 [(tA, 4, 3, false)] W (by simp) (by intro f hf; simp at hf; subst hf; decide) hW)
  rw [show lenN [(tA, 4, 3, false)] = 4 by decide +kernel] at CL
  simp only [List.length_singleton] at CL
  have hw0 : IntKind.u8.wrap 0 = 0 := by decide
  have hw1 : IntKind.u8.wrap 1 = 1 := by decide
  have hw3 : IntKind.u8.wrap 3 = 3 := by decide
  have hb0 : Below w.heap.size w ((w.alloc (.cells #[.int .i64 0, .slice (some ⟨bF, 0, none⟩) 1 1, .slice (some ⟨bR, 0, none⟩) 1 1] 25)).alloc (.cells #[.int .u8 67, .int .u8 0] 5)) := ((Below.refl _ _).alloc (Nat.le_refl _) _).alloc (by simp) _
  have h0 := h.below hb0 h.f.1 h.zr h.zv
  have HB0 := Lib.hid hb0; clear hb0
  go_enter Tryz.func61, Tryz.ntmps61
  have CA := Lib.hid (fun (v : Value) (zs : List Int) (n : Int) (k : Nat) W h0 h1 hk hz hb ho => appendLow_any (w.heap.size + 1) v zs n k W h0 h1 hk hz hb ho)
  unfold OwnR at CA
  have HO0 : Own ((w.alloc (.cells #[.int .i64 0, .slice (some ⟨bF, 0, none⟩) 1 1, .slice (some ⟨bR, 0, none⟩) 1 1] 25)).alloc (.cells #[.int .u8 67, .int .u8 0] 5)) (w.heap.size + 1) 5 .u8 (.slice (some ⟨w.heap.size + 1, 0, none⟩) 2 2) [67, 0] := by
    have := World.ownsRow_lit (base := w.heap.size + 1) (e := 5) (size := 1) (w.alloc (.cells #[.int .i64 0, .slice (some ⟨bF, 0, none⟩) 1 1, .slice (some ⟨bR, 0, none⟩) 1 1] 25)) #[.int .u8 67, .int .u8 0] 2 (by simp) (by unfold maxLen; omega) rfl
    simpa [Own] using this
  have T0 : ∀ (W : World), Below (w.heap.size + 1) ((w.alloc (.cells #[.int .i64 0, .slice (some ⟨bF, 0, none⟩) 1 1, .slice (some ⟨bR, 0, none⟩) 1 1] 25)).alloc (.cells #[.int .u8 67, .int .u8 0] 5)) W → W.cell? ⟨w.heap.size, 1, none⟩ = some (.slice (some ⟨bF, 0, none⟩) 1 1) ∧ W.cell? ⟨w.heap.size, 2, none⟩ = some (.slice (some ⟨bR, 0, none⟩) 1 1) ∧ w.heap.size < W.heap.size ∧ w.heap.size + 1 ≤ W.heap.size ∧ KT W bF bR bV ∧ Below w.heap.size w W := fun W hb =>
    ⟨(hb.cell (p := ⟨w.heap.size, 1, none⟩) (by simp)).trans (by simp [go_sem]), (hb.cell (p := ⟨w.heap.size, 2, none⟩) (by simp)).trans (by simp [go_sem]), by have := hb.size; simp at this; omega, by have := hb.size; simp at this; omega, h0.below hb (by have := h.f.1; omega) (by have := h.zr; omega) (by have := h.zv; omega), HB0.out.trans (hb.mono (by omega))⟩
  have HT0 := Lib.hid T0
  clear T0
  go_wp2_with fail
  refine (CA.out _ [67, 0] 1 4 _ (by omega) (by omega) (by omega) (by simp) (by simp) HO0).mono ?_
  rintro e w1 ⟨v1, rfl, ho1, hb1⟩
  obtain ⟨a1, a2, a3, a4, a5, a6⟩ := HT0.out _ hb1
  have hB := Lib.hid hb1
  clear hb1 HO0 h0
  go_wp2_with fail
  refine (CA.out _ _ 29 2 _ (by omega) (by omega) (by omega) (by simp [lowL_len]) a4 ho1).mono ?_
  rintro e w2 ⟨v2, rfl, ho2, hb2⟩
  have hb2 := hB.out.trans hb2
  obtain ⟨a1, a2, a3, a4, a5, a6⟩ := HT0.out _ hb2
  have hB := Lib.hid hb2
  clear hb2 ho1
  go_wp2_with fail
  refine (CL.out _ a5.f).mono ?_
  rintro e w3 ⟨rfl, hb3⟩
  have ho3 := ho2.below hb3 (Nat.le_refl _)
  have hb3 := hB.out.trans (hb3.mono a4)
  obtain ⟨a1, a2, a3, a4, a5, a6⟩ := HT0.out _ hb3
  have hB := Lib.hid hb3
  clear hb3 ho2
  go_wp2_with fail
  refine (CA.out _ _ 4 2 _ (by omega) (by omega) (by omega) (by simp [lowL_len]) a4 ho3).mono ?_
  rintro e w4 ⟨v4, rfl, ho4, hb4⟩
  have hb4 := hB.out.trans hb4
  obtain ⟨a1, a2, a3, a4, a5, a6⟩ := HT0.out _ hb4
  have hB := Lib.hid hb4
  clear hb4 ho3
  have hlen4 : ([67, 0] ++ lowL 1 4 ++ lowL 29 2 ++ lowL 4 2).length = 10 := by simp [lowL_len]
  generalize [67, 0] ++ lowL 1 4 ++ lowL 29 2 ++ lowL 4 2 = z4 at *
  have hlen4' := Lib.hid hlen4
  clear hlen4
  have HO4 := Lib.hid (ho4.alloc (.cells #[.int .u8 1, .int .u8 0] 5))
  clear ho4
  have HB4a := Lib.hid (hB.out.alloc a4 (.cells #[.int .u8 1, .int .u8 0] 5))
  have hs4 : w.heap.size + 1 ≤ (w4.alloc (.cells #[.int .u8 1, .int .u8 0] 5)).heap.size := by simp; omega
  have HT4 := Lib.hid hs4
  clear hs4
  have HC4 : Hid (∀ j, j < ([1, 0] : List Int).length → (w4.alloc (.cells #[.int .u8 1, .int .u8 0] 5)).cell? ((⟨w4.heap.size, 0, none⟩ : Addr).add j) = some (.int .u8 (([1, 0] : List Int).getD j 0))) := Lib.hid (fun j hj => by rcases (show j = 0 ∨ j = 1 by simp at hj; omega) with rfl | rfl <;> simp [go_sem, Addr.add])
  go_wp2_with (at_builtin; refine app_list rfl _ _ rfl (w.heap.size + 1) _ z4 [1, 0] rfl HO4.out ⟨w4.heap.size, 0, none⟩ 2 2 rfl rfl HC4.out (by rw [hlen4'.out]; decide) HT4.out ?_; intro v5 w5 ho5 hb5 _; have hb5 := HB4a.out.trans hb5; obtain ⟨a1, a2, a3, a4, a5, a6⟩ := HT0.out _ hb5)
  have hlen5 : (z4 ++ [1, 0]).length = 12 := by rw [List.length_append, hlen4'.out]; rfl
  generalize z4 ++ [1, 0] = z5 at *
  have HB5 := Lib.hid a6
  have hF5 := a5.f
  have q1 := h.f.1
  have hbf : bF < w.heap.size + 1 := by omega
  clear HO4 HB4a HC4 HT4 hlen4' hB HT0 a1 a2 a5 a6 hb5
  go_loopw [3, 39] (fun u i wr => ∃ z, Own wr (w.heap.size + 1) 5 .u8 u z ∧ ((i = .int .i64 0 ∧ z.length = 12) ∨ (i = .int .i64 1 ∧ z.length = 28)) ∧ Below (w.heap.size + 1) w5 wr) (fun _ i _ => 1 - (intOf i).toNat)
  case atStart => exact ⟨z5, ho5, .inl ⟨rfl, hlen5⟩, Below.refl _ _⟩
  case round =>
    obtain ⟨z, ho, hi, hb⟩ := hrel
    have hz := hb.size
    have hf := hF5.below hb hbf
    have HB := Lib.hid hb
    have HO := Lib.hid ho
    clear hb ho ho5 hlen5
    rcases hi with ⟨rfl, hl⟩ | ⟨rfl, hl⟩
    · have HL := Lib.hid hl
      clear hl
      have hbr := hf.1
      obtain ⟨c0, c1, c2, c3⟩ := hf.2 0 (by simp)
      simp only [List.getElem_cons_zero, Nat.zero_mul, Nat.zero_add, Nat.add_zero] at c0 c1 c2 c3
      have hms := mk16
      have hcp := cpA (wr.heap.size + 1) ((wr.alloc (.cells #[.string tA, .int .i64 4, .int .i64 3, .bool false] 49)).alloc (.cells #[.int .u8 0, .int .u8 0, .int .u8 0, .int .u8 0, .int .u8 0, .int .u8 0, .int .u8 0, .int .u8 0, .int .u8 0, .int .u8 0, .int .u8 0, .int .u8 0, .int .u8 0, .int .u8 0, .int .u8 0, .int .u8 0] 5)) (by simp [go_sem]) (by simp [go_sem])
      go_wp2_with fail
      go_region
      have HX := Lib.hid ((((Below.refl wr.heap.size wr).alloc (Nat.le_refl _) (.cells #[.string tA, .int .i64 4, .int .i64 3, .bool false] 49)).alloc (by simp) (.cells #[.int .u8 65, .int .u8 0, .int .u8 0, .int .u8 0, .int .u8 0, .int .u8 0, .int .u8 0, .int .u8 0, .int .u8 0, .int .u8 0, .int .u8 67, .int .u8 3, .int .u8 0, .int .u8 0, .int .u8 0, .int .u8 0] 5)).drew)
      have HOX := Lib.hid (HO.out.below HX.out (Nat.le_refl _))
      have HCX : Hid (∀ j, j < ([65, 0, 0, 0, 0, 0, 0, 0, 0, 0, 67, 3, 0, 0, 0, 0] : List Int).length → (((wr.alloc (.cells #[.string tA, .int .i64 4, .int .i64 3, .bool false] 49)).alloc (.cells #[.int .u8 65, .int .u8 0, .int .u8 0, .int .u8 0, .int .u8 0, .int .u8 0, .int .u8 0, .int .u8 0, .int .u8 0, .int .u8 0, .int .u8 67, .int .u8 3, .int .u8 0, .int .u8 0, .int .u8 0, .int .u8 0] 5)).drew).cell? ((⟨wr.heap.size + 1, 0, none⟩ : Addr).add j) = some (.int .u8 (([65, 0, 0, 0, 0, 0, 0, 0, 0, 0, 67, 3, 0, 0, 0, 0] : List Int).getD j 0))) := Lib.hid (fun j hj => by
        have hj : j < 16 := hj
        rcases j with _ | _ | _ | _ | _ | _ | _ | _ | _ | _ | _ | _ | _ | _ | _ | _ | j <;> first | (simp [go_sem, Addr.add]; done) | omega)
      have hsX : w.heap.size + 1 ≤ (((wr.alloc (.cells #[.string tA, .int .i64 4, .int .i64 3, .bool false] 49)).alloc (.cells #[.int .u8 65, .int .u8 0, .int .u8 0, .int .u8 0, .int .u8 0, .int .u8 0, .int .u8 0, .int .u8 0, .int .u8 0, .int .u8 0, .int .u8 67, .int .u8 3, .int .u8 0, .int .u8 0, .int .u8 0, .int .u8 0] 5)).drew).heap.size := by simp; omega
      have HSX := Lib.hid hsX
      clear hsX
      go_wp2_with (at_builtin; refine app_list rfl _ _ rfl (w.heap.size + 1) _ z [65, 0, 0, 0, 0, 0, 0, 0, 0, 0, 67, 3, 0, 0, 0, 0] rfl HOX.out ⟨wr.heap.size + 1, 0, none⟩ 16 16 rfl rfl HCX.out (by rw [HL.out]; decide) HSX.out ?_; intro v6 w6 ho6 hb6 _)
      refine ⟨⟨_, ho6, .inr ⟨rfl, by rw [List.length_append, HL.out]; rfl⟩, HB.out.trans (((HX.out).mono (by omega)).trans hb6)⟩, by decide⟩
    · have HO2 := Lib.hid (HO.out.alloc (.cells #[.int .u8 13] 5))
      have HL := Lib.hid hl
      clear hl
      go_wp2_with (at_builtin; refine app_byte rfl _ _ rfl (w.heap.size + 1) _ z 13 rfl HO2.out ⟨wr.heap.size, 0, none⟩ 1 rfl (new_cell _ _ _) (by rw [HL.out]; decide) (by simp; omega) ?_; intro v' w' hown' hbl' _)
      go_ret
      obtain ⟨A, c, hv, _, _, _⟩ := hown'.out
      have hl29 : (z ++ [13]).length = 29 := by rw [List.length_append, HL.out]; rfl
      rw [hl29] at hv
      refine ⟨A, c, by rw [← hv]; rfl, HB5.out.trans ((HB.out.trans (((Below.refl _ wr).alloc (by omega) _).trans hbl')).mono (by omega))⟩
end Go.Proofs.YtcgfeeobkoomfaaGreatDoor
