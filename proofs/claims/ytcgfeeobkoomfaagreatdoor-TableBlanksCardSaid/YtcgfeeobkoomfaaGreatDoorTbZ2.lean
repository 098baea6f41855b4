/- ValidateFields of the program and of the reference over any list. -/
import Derived.Test.YtcgfeeobkoomfaaGreatDoorTbZ
namespace Go.Proofs.YtcgfeeobkoomfaaGreatDoor
open Go.RowKit
set_option linter.unusedVariables false
set_option linter.unusedSimpArgs false
set_option maxRecDepth 40000
set_option maxHeartbeats 4000000 in
theorem ValidateFields_wide (b off c : Nat) (l : List F4) (w : World) (hn : l ≠ []) (hl : l.length ≤ 140737488355328) (hl2 : Alln l → l.length ≤ 200000) (hs : ∀ f ∈ l, f.1.size ≤ maxLen) (h : FdR w b off l) :
    Calls Tryz.prog 20 #[.slice (some ⟨b, off, none⟩) l.length c] w fun e w' => e = .returned (.int .i64 (flE l)) ∧ Below w.heap.size w w' := by
  have hl0 : 0 < l.length := List.length_pos_iff.2 hn
  have hl0' : (((l.length : Nat) : Int) == 0) = false := by simp; omega
  have CT0 := Lib.hid (fun q W hW => hasTwice_any b off c l W q hs hW)
  have CL := Lib.hid (fun q W hw hW => length_any b off c l W q hw hW)
  have HL2 := Lib.hid hl2; clear hl2
  have HS := Lib.hid hs; clear hs
  have HE := Lib.hid (fun h => flE_all (l := l) h hn); clear hn
  go_enter Tryz.func20, Tryz.ntmps20
  go_wp2_with fail
  go_loopw [10] (fun i wr => ∃ k : Nat, k ≤ l.length ∧ i = .int .i64 k ∧ Alln (l.take k) ∧ Below w.heap.size w wr ∧ FdR wr b off l) (fun i _ => l.length - (intOf i).toNat)
  case atStart => exact ⟨0, by omega, rfl, by intro f hf; simp at hf, Below.refl _ _, h⟩
  case round =>
    obtain ⟨k, hk, rfl, ha, hb, hf⟩ := hrel
    have HB := Lib.hid hb; clear hb
    have HA := Lib.hid ha; clear ha
    by_cases hlt : k < l.length
    · have hbr := hf.1
      obtain ⟨c0, c1, c2, c3⟩ := hf.2 k hlt
      have CI := Lib.hid (fun W => isField_any l[k].1 l[k].2.1 l[k].2.2.1 l[k].2.2.2 W (HS.out _ (List.getElem_mem hlt)))
      have HN := Lib.hid (flE_no hlt)
      have HF := Lib.hid hf
      have HG : Hid (fldB l[k].1 l[k].2.1 l[k].2.2.1 = true → Alln (l.take (k + 1))) := Lib.hid (fun e f hf' => by
        rw [List.take_succ_eq_append_getElem hlt] at hf'
        rcases List.mem_append.1 hf' with q | q
        · exact HA.out f q
        · rw [List.mem_singleton.1 q]; exact e)
      clear hf
      unfold FldP at CI
      generalize l[k] = f at *
      obtain ⟨nm, fk, wd, nu⟩ := f
      simp only at CI HN HG
      have hbw : Below w.heap.size wr (wr.alloc (.cells #[.string nm, .int .i64 fk, .int .i64 wd, .bool nu] 49)) := (Below.refl _ _).alloc HB.out.size _
      have HBW := Lib.hid hbw; clear hbw
      cases hx : fldB nm fk wd
      · rw [hx] at CI
        have HT := Lib.hid (HN.out hx)
        clear hx HN HG
        go_wp2_with fail
        refine (CI.out _).mono ?_
        rintro e w1 ⟨rfl, hb1⟩
        have hz := HB.out.size
        go_wp2_with fail
        (try rw [Exit.noGoto_ret])
        go_ret
        exact ⟨by rw [HT.out]; rfl, (HB.out.trans HBW.out).trans (hb1.mono (by simp; omega))⟩
      · rw [hx] at CI
        have HT := Lib.hid (HG.out hx)
        clear hx HN HG
        go_wp2_with fail
        refine (CI.out _).mono ?_
        rintro e w1 ⟨rfl, hb1⟩
        have hz := HB.out.size
        have hb2 : Below w.heap.size wr w1 := HBW.out.trans (hb1.mono (by simp; omega))
        have HB2 := Lib.hid hb2
        clear hb1 hb2
        go_wp2_with fail
        exact ⟨⟨k + 1, by omega, by go_num, HT.out, HB.out.trans HB2.out, HF.out.below HB2.out h.1⟩, by simp [intOf]; omega⟩
    · have hkl : k = l.length := by omega
      subst hkl
      have ha := HA.out
      rw [List.take_length] at ha
      have hv := HE.out ha
      obtain ⟨e1, e2⟩ := flgN_bd l
      obtain ⟨e3, e4⟩ := sumN_bd (alln_wds ha)
      have hln : lenN l = 1 + flgN l + sumN l := rfl
      have hl2 := HL2.out ha
      have CT := Lib.hid (fun W hW => CT0.out hl2 W hW)
      have CL2 := Lib.hid (fun W hW => CL.out hl2 W (alln_wds ha) hW)
      clear CT0
      clear HA ha CL
      cases ht : twiceB l
      · rw [ht] at hv CT
        simp only [Bool.false_eq_true, if_false] at hv
        by_cases h16 : 16 < l.length
        · rw [if_pos (.inl h16)] at hv
          have HV := Lib.hid hv
          clear hv ht hln
          go_wp2_with fail
          refine (CT.out _ hf).mono ?_
          rintro e w1 ⟨rfl, hb1⟩
          go_wp2_with fail
          go_ret
          exact ⟨by rw [HV.out]; rfl, HB.out.trans (hb1.mono HB.out.size)⟩
        · by_cases h20 : 2000 < lenN l
          · rw [if_pos (.inr h20)] at hv
            have HV := Lib.hid hv
            clear hv ht hln
            generalize lenN l = ln at *
            go_wp2_with fail
            refine (CT.out _ hf).mono ?_
            rintro e w1 ⟨rfl, hb1⟩
            have hf1 := hf.below hb1 hf.1
            go_wp2_with fail
            refine (CL2.out _ hf1).mono ?_
            rintro e w2 ⟨rfl, hb2⟩
            go_wp2_with fail
            go_ret
            exact ⟨by rw [HV.out]; rfl, HB.out.trans ((hb1.trans (hb2.mono hb1.size)).mono HB.out.size)⟩
          · rw [if_neg (by omega)] at hv
            have HV := Lib.hid hv
            clear hv ht hln
            generalize lenN l = ln at *
            go_wp2_with fail
            refine (CT.out _ hf).mono ?_
            rintro e w1 ⟨rfl, hb1⟩
            have hf1 := hf.below hb1 hf.1
            go_wp2_with fail
            refine (CL2.out _ hf1).mono ?_
            rintro e w2 ⟨rfl, hb2⟩
            go_wp2_with fail
            go_ret
            exact ⟨by rw [HV.out]; rfl, HB.out.trans ((hb1.trans (hb2.mono hb1.size)).mono HB.out.size)⟩
      · rw [ht] at hv CT
        simp only [if_true] at hv
        have HV := Lib.hid hv
        clear hv ht hln
        go_wp2_with fail
        refine (CT.out _ hf).mono ?_
        rintro e w1 ⟨rfl, hb1⟩
        go_wp2_with fail
        go_ret
        exact ⟨by rw [HV.out]; rfl, HB.out.trans (hb1.mono HB.out.size)⟩

theorem same_name {a b : ByteArray} (h : (a.toList == b.toList) = true) : a.data.toList = b.data.toList := by
  rw [← ByteArray.toList_eq, ← ByteArray.toList_eq]; exact eq_of_beq h
theorem other_name {a b : ByteArray} (h : (a.toList == b.toList) = false) : a.data.toList ≠ b.data.toList := by
  rw [← ByteArray.toList_eq, ← ByteArray.toList_eq]; exact ne_of_beq_false h
theorem name_in {l : List F4} {k j : Nat} (hj : j < l.length) (h : j < k) : l[j].1.data.toList ∈ names (l.take k) := by
  unfold names
  refine List.mem_map.2 ⟨l[j], ?_, rfl⟩
  exact List.mem_take_iff_getElem.2 ⟨j, by omega, rfl⟩
set_option maxHeartbeats 4000000 in
theorem refValidateFields_any (A : Option Addr) (c : Nat) (l : List F4) (w : World) (hn : l ≠ []) (hl : l.length ≤ 140737488355328) (hl2 : Alln l → l.length ≤ 200000) (hs : ∀ f ∈ l, f.1.size ≤ maxLen) (h : FdA w A l) :
    Calls Tryz.prog 21 #[.slice A l.length c] w fun e w' => e = .returned (.int .i64 (flE l)) ∧ Below w.heap.size w w' := by
  have hl0 : 0 < l.length := List.length_pos_iff.2 hn
  have hl0' : (((l.length : Nat) : Int) == 0) = false := by simp; omega
  have CL := Lib.hid (fun q W hw hW => Wide_any A c l W q hw hW)
  have HS := Lib.hid hs; clear hs
  have HL2 := Lib.hid hl2; clear hl2
  have HE := Lib.hid (fun h => flE_all (l := l) h hn)
  obtain ⟨b, off, rfl, h0⟩ := h hn
  clear hn
  go_enter Tryz.func21, Tryz.ntmps21
  go_wp2_with fail
  go_loopw [3] (fun i wr => ∃ k : Nat, k ≤ l.length ∧ i = .int .i64 k ∧ Alln (l.take k) ∧ Below w.heap.size w wr ∧ FdR wr b off l) (fun i _ => l.length - (intOf i).toNat)
  case atStart => exact ⟨0, by omega, rfl, by intro f hf; simp at hf, Below.refl _ _, h0⟩
  case round =>
    obtain ⟨k, hk, rfl, ha, hb, hf⟩ := hrel
    have HB := Lib.hid hb; clear hb
    have HA := Lib.hid ha; clear ha
    by_cases hlt : k < l.length
    · have hbr := hf.1
      obtain ⟨c0, c1, c2, c3⟩ := hf.2 k hlt
      have CI := Lib.hid (fun W => refIsField_any l[k].1 l[k].2.1 l[k].2.2.1 l[k].2.2.2 W (HS.out _ (List.getElem_mem hlt)))
      have HN := Lib.hid (flE_no hlt)
      have HF := Lib.hid hf
      have HG : Hid (fldB l[k].1 l[k].2.1 l[k].2.2.1 = true → Alln (l.take (k + 1))) := Lib.hid (fun e f hf' => by
        rw [List.take_succ_eq_append_getElem hlt] at hf'
        rcases List.mem_append.1 hf' with q | q
        · exact HA.out f q
        · rw [List.mem_singleton.1 q]; exact e)
      clear hf
      unfold FldP at CI
      generalize l[k] = f at *
      obtain ⟨nm, fk, wd, nu⟩ := f
      simp only at CI HN HG c0 c1 c2 c3
      cases hx : fldB nm fk wd
      · rw [hx] at CI
        have HT := Lib.hid (HN.out hx)
        clear hx HN HG
        go_wp2_with fail
        refine (CI.out _).mono ?_
        rintro e w1 ⟨rfl, hb1⟩
        go_wp2_with fail
        (try rw [Exit.noGoto_ret])
        go_ret
        exact ⟨by rw [HT.out]; rfl, HB.out.trans (hb1.mono HB.out.size)⟩
      · rw [hx] at CI
        have HT := Lib.hid (HG.out hx)
        clear hx HN HG
        go_wp2_with fail
        refine (CI.out _).mono ?_
        rintro e w1 ⟨rfl, hb1⟩
        have HB2 := Lib.hid hb1
        clear hb1
        go_wp2_with fail
        exact ⟨⟨k + 1, by omega, by go_num, HT.out, HB.out.trans (HB2.out.mono HB.out.size), HF.out.below HB2.out HF.out.1⟩, by simp [intOf]; omega⟩
    · have hkl : k = l.length := by omega
      subst hkl
      have ha := HA.out
      rw [List.take_length] at ha
      have hv := HE.out ha
      have hl2 := HL2.out ha
      obtain ⟨e1, e2⟩ := flgN_bd l
      obtain ⟨e3, e4⟩ := sumN_bd (alln_wds ha)
      have hln : lenN l = 1 + flgN l + sumN l := rfl
      have CL2 := Lib.hid (fun W (hW : FdA W (some ⟨b, off, none⟩) l) => CL.out hl2 W (alln_wds ha) hW)
      have HV := Lib.hid hv
      have HLN := Lib.hid hln
      clear HA ha CL hv hln
      go_wp2_with fail
      go_loopw [4] (fun i wq => ∃ k : Nat, k ≤ l.length ∧ i = .int .i64 k ∧ (names (l.take k)).Nodup ∧ Below w.heap.size w wq ∧ FdR wq b off l) (fun i _ => l.length - (intOf i).toNat)
      case atStart => exact ⟨0, by omega, rfl, by simp [names], HB.out, hf⟩
      case round =>
        obtain ⟨k, hk2, rfl, hnd, hb2, hf2⟩ := hrel
        have HB2 := Lib.hid hb2; clear hb2 hf
        have HND := Lib.hid hnd; clear hnd
        by_cases hlt2 : k < l.length
        · have HF2 := Lib.hid hf2
          have HY := Lib.hid (fun q => twice_yes hlt2 q)
          have HG := Lib.hid (fun q => nodup_step hlt2 HND.out q)
          clear hf2
          go_wp2_with fail
          go_loopw [5] (fun i wz => ∃ j : Nat, j ≤ k ∧ i = .int .i64 j ∧ l[k].1.data.toList ∉ names (l.take j) ∧ Below w.heap.size w wz ∧ FdR wz b off l) (fun i _ => k - (intOf i).toNat)
          case atStart => exact ⟨0, by omega, rfl, by simp [names], HB2.out, HF2.out⟩
          case round =>
            obtain ⟨j, hj, rfl, hni, hb3, hf3⟩ := hrel
            have HB3 := Lib.hid hb3; clear hb3
            have HNI := Lib.hid hni; clear hni
            by_cases hjk : j < k
            · have hjl : j < l.length := by omega
              have hbr := hf3.1
              obtain ⟨x0, -, -, -⟩ := hf3.2 k hlt2
              obtain ⟨y0, -, -, -⟩ := hf3.2 j hjl
              have HF3 := Lib.hid (hf3.below (Below.refl wr.heap.size wr).drew hf3.1)
              have HB4 := Lib.hid (HB3.out.drew)
              have HIN := Lib.hid (name_in hjl hjk)
              have HST := Lib.hid (names_step hjl)
              clear hf3
              generalize l[k] = f at *
              generalize l[j] = g at *
              obtain ⟨nm, fk, wd, nu⟩ := f
              obtain ⟨gn, gk, gw, gu⟩ := g
              simp only at HY HG HNI HIN HST x0 y0
              cases hx : (nm.toList == gn.toList)
              · have hne := Lib.hid (other_name hx)
                go_wp2_with fail
                go_region
                all_goals (
                  go_wp2_with fail
                  exact ⟨⟨j + 1, by omega, by go_num, by rw [HST.out]; intro q; rcases List.mem_append.1 q with q | q; exact HNI.out q; exact hne.out (List.mem_singleton.1 q), HB4.out, HF3.out⟩, by simp [intOf]; omega⟩)
              · have heq := same_name hx
                have HT := Lib.hid (HY.out (by rw [heq]; exact HIN.out))
                clear heq
                go_wp2_with fail
                go_region
                all_goals (
                  go_wp2_with fail
                  (try rw [Exit.noGoto_ret])
                  (try rw [Exit.noGoto_ret])
                  go_ret
                  exact ⟨by rw [HV.out, HT.out]; rfl, HB4.out⟩)
            · have hjk' : j = k := by omega
              subst hjk'
              have HT := Lib.hid (HG.out HNI.out)
              have HF3 := Lib.hid hf3
              clear hf3
              go_wp2_with fail
              exact ⟨⟨j + 1, by omega, by go_num, HT.out, HB3.out, HF3.out⟩, by simp [intOf]; omega⟩
        · have hkl2 : k = l.length := by omega
          subst hkl2
          have HT := Lib.hid (twice_no HND.out)
          have HFA : Hid (FdA wr (some ⟨b, off, none⟩) l) := Lib.hid (fun _ => ⟨b, off, rfl, hf2⟩)
          have HW : Hid (flE l = if 16 < l.length ∨ 2000 < lenN l then 3 else 0) := Lib.hid (by rw [HV.out, HT.out]; rfl)
          clear hf2 HND
          by_cases h16 : 16 < l.length
          · have HQ : Hid (flE l = 3) := Lib.hid (by rw [HW.out, if_pos (.inl h16)])
            clear HW HV HT
            go_wp2_with fail
            go_ret
            exact ⟨by rw [HQ.out]; rfl, HB2.out⟩
          · by_cases h20 : 2000 < lenN l
            · have HQ : Hid (flE l = 3) := Lib.hid (by rw [HW.out, if_pos (.inr h20)])
              have hLN := HLN.out
              clear HW HV HT HLN
              generalize lenN l = ln at *
              go_wp2_with fail
              refine (CL2.out _ HFA.out).mono ?_
              rintro e w2 ⟨rfl, rfl⟩
              go_wp2_with fail
              go_ret
              exact ⟨by rw [HQ.out]; rfl, HB2.out⟩
            · have HQ : Hid (flE l = 0) := Lib.hid (by rw [HW.out, if_neg (by omega)])
              have hLN := HLN.out
              clear HW HV HT HLN
              generalize lenN l = ln at *
              go_wp2_with fail
              refine (CL2.out _ HFA.out).mono ?_
              rintro e w2 ⟨rfl, rfl⟩
              go_wp2_with fail
              go_ret
              exact ⟨by rw [HQ.out]; rfl, HB2.out⟩
end Go.Proofs.YtcgfeeobkoomfaaGreatDoor
