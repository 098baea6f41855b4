/- Decode of the program. -/
import Derived.Test.YtgeikbcfjidgcaaDoorPgBr
namespace Go.Proofs.YtgeikbcfjidgcaaDoor
open Go.RowKit
set_option linter.unusedVariables false
set_option linter.unusedSimpArgs false

theorem bldAt_below {T e : TypeId} {B b : Nat} {p : Value} {bs : List Value} {w w' : World} (h : Lib.BuilderAtF T e B b p bs w) (hb : Below w.heap.size w w') : Lib.BuilderAtF T e B b p bs w' := by
  obtain ⟨hB, v, hk, ⟨hl, ho⟩, hne⟩ := h
  have blk : ∀ k o, w.heap[k]? = some o → w'.heap[k]? = some o := fun k o hk => by
    rw [hb.block k (Array.getElem?_eq_some_iff.1 hk).1]; exact hk
  refine ⟨hB, v, blk _ _ hk, ⟨hl, ?_⟩, hne⟩
  rcases ho with ho | ⟨g, cap, cur, fz, h1, h2, h3, h4⟩
  · exact .inl ho
  · exact .inr ⟨g, cap, cur, fz, h1, h2, blk _ _ h3, h4⟩
theorem bld_below {T e : TypeId} {B b : Nat} {bs : List Value} {w w' : World} (h : Lib.IsBuilderF T e B b bs w) (hb : Below w.heap.size w w') : Lib.IsBuilderF T e B b bs w' := by
  rcases h with h | h
  · exact .inl (bldAt_below h hb)
  · exact .inr (bldAt_below h hb)
theorem enc_tab : ∀ (p : Fin 3) (b : Fin 256), (Utf8.encode ((chI p.val b.val).getD 0)).data.toList = Lib.encodeRune ((chI p.val b.val).getD 0) := by decide +kernel

set_option maxHeartbeats 4000000 in
set_option maxRecDepth 40000 in
theorem Decode_any (s : ByteArray) (p : Int) (w : World) (ht : Tabs w) (hsp : SpTab w) (hs : s.size ≤ maxLen) :
    Calls Tryd.prog 14 #[.string s, .int .i64 p] w (SRes w (decT s p) (decE s p)) := by
  have HT := Lib.hid ht; clear ht
  have HSP := Lib.hid hsp; clear hsp
  have hcon := Lib.hid (wrong_any p 0 [s])
  simp only [List.length_singleton] at hcon
  cases hz : decide (wrongN p 0 [s] = 0)
  · have hz : ¬ wrongN p 0 [s] = 0 := by simpa using hz
    have e1 : decT s p = ⟨#[]⟩ := by simp [decT, hz]
    have e2 : decE s p = wrongN p 0 [s] := by simp [decE, hz]
    rw [e1, e2]
    generalize wrongN p 0 [s] = n at *
    have dn : (n != 0) = true := by simpa using hz
    clear hz e1 e2
    go_enter Tryd.func14, Tryd.ntmps14
    go_wp2_with fail
    refine (hcon.out ⟨w.heap.size, 0, none⟩ 1 _ (by simp) (by simpa using hs) (text_cell w s _ rfl)).mono ?_
    rintro e w1 ⟨rfl, rfl⟩
    go_wp2_with fail
    go_ret2
    exact ⟨rfl, (Below.refl _ _).alloc (Nat.le_refl _) _⟩
  · have hz : wrongN p 0 [s] = 0 := by simpa using hz
    obtain ⟨hp0, hp3, _, hss⟩ := wrong_zero hz
    have hs2 : s.size ≤ 2048 := hss s (by simp)
    obtain ⟨q, rfl⟩ : ∃ q : Nat, p = q := ⟨p.toNat, by omega⟩
    have hp : q < 3 := by omega
    have E1 : Hid (vld q s.data.toList = true → decT s q = decS q s.data.toList ∧ decE s q = 0) := Lib.hid fun h => by simp [decT, decE, hz, h]
    have E2 : Hid (vld q s.data.toList = false → decT s q = ⟨#[]⟩ ∧ decE s q = 2) := Lib.hid fun h => by simp [decT, decE, hz, h]
    rw [hz] at hcon
    clear hz hp0 hp3 hss
    have hsz : s.data.toList.length = s.size := rfl
    have hb0 : Below w.heap.size w (w.alloc (.cells #[.string s] 9)) := (Below.refl _ _).alloc (Nat.le_refl _) _
    have HB0 := Lib.hid hb0; clear hb0
    go_enter Tryd.func14, Tryd.ntmps14
    go_wp2_with fail
    refine (hcon.out ⟨w.heap.size, 0, none⟩ 1 _ (by simp) (by simpa using hs) (text_cell w s _ rfl)).mono ?_
    rintro e w1 ⟨rfl, rfl⟩
    generalize w.alloc (.cells #[.string s] 9) = wb at *
    go_wp2_with fail
    have hbl : Below wb.heap.size wb (wb.alloc (.cells #[.pointer none, .slice none 0 0] 48)) := (Below.refl _ _).alloc (Nat.le_refl _) _
    have HI0 := Lib.hid (Lib.IsBuilderF.of (Lib.fresh_isBuilder 48 5 wb))
    have HB1 := Lib.hid (HB0.out.trans (hbl.mono HB0.out.size)); clear hbl
    have HZ0 : Hid (w.heap.size ≤ wb.heap.size) := Lib.hid HB0.out.size
    have HZ1 : Hid (wb.heap.size ≤ (wb.alloc (.cells #[.pointer none, .slice none 0 0] 48)).heap.size) := Lib.hid (by simp)
    generalize wb.alloc (.cells #[.pointer none, .slice none 0 0] 48) = w0 at *
    generalize wb.heap.size = g at *
    go_loopw [20] (fun i wr => ∃ k : Nat, k ≤ s.data.toList.length ∧ i = .int .i64 k ∧ vld q (s.data.toList.take k) = true ∧ Lib.IsBuilderF 48 5 g g (Lib.byteCells (decS q (s.data.toList.take k)).data.toList) wr ∧ g ≤ wr.heap.size ∧ Below w.heap.size w wr) (fun i _ => s.size - (intOf i).toNat)
    case atStart => exact ⟨0, by omega, rfl, by simp [vld], by simpa [decS, Lib.byteCells] using HI0.out, HZ1.out, HB1.out⟩
    case round =>
      obtain ⟨k, hk, rfl, hv, hbld, hgw, hbel⟩ := hrel
      have HB := Lib.hid hbel; clear hbel
      have HG := Lib.hid hgw; clear hgw
      have HL := Lib.hid hbld; clear hbld
      by_cases hlt : k < s.data.toList.length
      · have hks : k < s.size := by omega
        have hks' : (k : Int) < s.size := by omega
        have hsk : s[k].toNat = (s.data.toList.getD k 0).toNat := byte_at s k hks
        have hbb := byte_lt (s.data.toList.getD k 0)
        have HNO := Lib.hid (vld_no (p := q) (l := s.data.toList) hlt)
        have HST := Lib.hid (fun h => vld_step (p := q) (l := s.data.toList) hlt h hv)
        have HTK := Lib.hid (decS_take (p := q) (l := s.data.toList) hlt)
        have hle := Lib.hid (decS_le q s.data.toList k hk)
        have HEN := Lib.hid (enc_tab ⟨q, hp⟩ ⟨_, hbb⟩)
        simp only at HEN
        clear hv
        generalize (s.data.toList.getD k 0) = z at *
        generalize decS q (s.data.toList.take k) = o at *
        have HSPr := Lib.hid (HSP.out.below HB.out HT.out.pos)
        have hch := character_any z.toNat q hbb hp wr HSPr.out
        rw [chr_is hp hbb] at hch
        have HCH := Lib.hid hch; clear hch
        cases hco : chI q z.toNat with
        | none =>
          rw [hco] at HCH HNO
          clear HST HTK HEN hco
          have HE := Lib.hid (E2.out (HNO.out rfl))
          clear HNO
          go_wp2_with fail
          refine (HCH.out).mono ?_
          rintro e w1 ⟨rfl, hb1⟩
          simp only [Option.getD_none, Option.isSome_none]
          have HB2 := Lib.hid (HB.out.trans (hb1.mono HB.out.size)); clear hb1
          go_wp2_with fail
          (try rw [Exit.noGoto_ret])
          go_ret2
          exact ⟨by rw [HE.out.1, HE.out.2]; rfl, HB2.out⟩
        | some c =>
          have hcr := chI_range hp hbb hco
          rw [hco] at HCH HST HTK HEN
          clear HNO hco
          simp only [Option.getD_some] at HTK HEN
          have HLN : Hid (o.data.toList.length + 4 ≤ 140737488355328) := Lib.hid (by have h1 : o.data.toList.length = o.size := rfl; have h2 := hle.out; rw [h1]; omega)
          go_wp2_with fail
          refine (HCH.out).mono ?_
          rintro e w1 ⟨rfl, hb1⟩
          simp only [Option.getD_some, Option.isSome_some]
          have HL1 := Lib.hid (bld_below HL.out hb1)
          have HB2 := Lib.hid (HB.out.trans (hb1.mono HB.out.size))
          have HG1 : Hid (g ≤ w1.heap.size) := Lib.hid (Nat.le_trans HG.out hb1.size)
          clear hb1
          go_wp2_with fail
          refine (writeRune_k g g _ c (by omega) (by omega) _ HL1.out (by rw [Lib.byteCells_length]; exact HLN.out) HG1.out).mono ?_
          rintro e w2 ⟨rfl, h2, hb2, _⟩
          have HL2 := Lib.hid h2
          have HB3 := Lib.hid (HB2.out.trans (hb2.mono HZ0.out))
          have HG2 : Hid (g ≤ w2.heap.size) := Lib.hid (Nat.le_trans HG1.out hb2.size)
          clear hb2 h2
          go_wp2_with fail
          go_roundw
          case rel => exact ⟨k + 1, by omega, by go_num, HST.out rfl, by rw [HTK.out, ByteArray.data_append, Array.toList_append, Lib.byteCells_append, HEN.out, Lib.byteCells_encodeRune]; exact .inr HL2.out, HG2.out, HB3.out⟩
          case measure => simp [intOf]; omega
      · have hkl : k = s.data.toList.length := by omega
        have hks : k = s.size := by omega
        have gk : ¬ (k : Int) < s.size := by omega
        rw [hkl, List.take_length] at hv HL
        have HE := Lib.hid (E1.out hv)
        clear hv hkl
        go_wp2_with fail
        refine (Tryd.Builder_String_any_k g g _ _ HL.out HG.out).mono ?_
        rintro e w2 ⟨rfl, _, hb2, _⟩
        have HB3 := Lib.hid (HB.out.trans (hb2.mono HZ0.out))
        clear hb2
        go_wp2_with fail
        go_ret2
        exact ⟨by rw [HE.out.1, HE.out.2]; rfl, HB3.out⟩
end Go.Proofs.YtgeikbcfjidgcaaDoor
