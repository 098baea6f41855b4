/- Fields of a table: flagBytes, length, hasTwice, ValidateFields of the program. -/
import Derived.Test.YtcgfeeobkoomfaaGreatDoorTbI
import Derived.Maps.OwnOps
import Derived.Maps.OwnSet
import Derived.Maps.Views
namespace Go.Proofs.YtcgfeeobkoomfaaGreatDoor
open Go.RowKit Go.Maps
set_option linter.unusedVariables false
set_option linter.unusedSimpArgs false
set_option maxRecDepth 40000

abbrev F4 := ByteArray × Int × Int × Bool
def FAt (w : World) (b o : Nat) (f : F4) : Prop :=
  w.cell? ⟨b, o, none⟩ = some (.string f.1) ∧ w.cell? ⟨b, o + 1, none⟩ = some (.int .i64 f.2.1) ∧ w.cell? ⟨b, o + 2, none⟩ = some (.int .i64 f.2.2.1) ∧ w.cell? ⟨b, o + 3, none⟩ = some (.bool f.2.2.2)
def FdR (w : World) (b off : Nat) (l : List F4) : Prop := b < w.heap.size ∧ ∀ j (h : j < l.length), FAt w b (off + j * 4) l[j]
theorem FdR.below {w w' : World} {b off B : Nat} {l : List F4} (h : FdR w b off l) (hb : Below B w w') (hB : b < B) : FdR w' b off l :=
  ⟨Nat.lt_of_lt_of_le h.1 hb.size, fun j hj => ⟨(hb.cell (p := ⟨b, _, none⟩) hB).trans (h.2 j hj).1, (hb.cell (p := ⟨b, _, none⟩) hB).trans (h.2 j hj).2.1, (hb.cell (p := ⟨b, _, none⟩) hB).trans (h.2 j hj).2.2.1, (hb.cell (p := ⟨b, _, none⟩) hB).trans (h.2 j hj).2.2.2⟩⟩
/-- How many fields may be Nil. -/
def nulN (l : List F4) : Nat := (l.filter (·.2.2.2)).length
theorem nulN_step {l : List F4} {k : Nat} (h : k < l.length) : nulN (l.take (k + 1)) = nulN (l.take k) + if l[k].2.2.2 then 1 else 0 := by
  unfold nulN
  rw [List.take_succ_eq_append_getElem h, List.filter_append, List.length_append]
  cases hb : l[k].2.2.2 <;> simp [List.filter_cons, hb]
theorem nulN_le (l : List F4) : nulN l ≤ l.length := List.length_filter_le _ _
def flgN (l : List F4) : Int := ((nulN l : Int) + 7) / 8

set_option maxHeartbeats 4000000 in
theorem flagBytes_any (b off c : Nat) (l : List F4) (w : World) (hl : l.length ≤ 200000) (h : FdR w b off l) :
    Calls Tryz.prog 85 #[.slice (some ⟨b, off, none⟩) l.length c] w fun e w' => e = .returned (.int .i64 (flgN l)) ∧ Below w.heap.size w w' := by
  go_enter Tryz.func85, Tryz.ntmps85
  go_wp2_with fail
  go_loopw [3, 8] (fun n i wr => ∃ k : Nat, k ≤ l.length ∧ i = .int .i64 k ∧ n = .int .i64 (nulN (l.take k)) ∧ Below w.heap.size w wr) (fun _ i _ => l.length - (intOf i).toNat)
  case atStart => exact ⟨0, by omega, rfl, by simp [nulN], Below.refl _ _⟩
  case round =>
    obtain ⟨k, hk, rfl, rfl, hb⟩ := hrel
    have HB := Lib.hid hb; clear hb
    by_cases hlt : k < l.length
    · have hbr : b < wr.heap.size := Nat.lt_of_lt_of_le h.1 HB.out.size
      obtain ⟨c0, c1, c2, c3⟩ := (h.below HB.out h.1).2 k hlt
      have hs := nulN_step hlt
      have hle := nulN_le (l.take k)
      have hlk : (l.take k).length ≤ k := List.length_take_le _ _
      have HS := Lib.hid hs; clear hs
      generalize l[k] = f at *
      obtain ⟨nm, fk, wd, nu⟩ := f
      cases nu
      · go_wp2_with fail
        exact ⟨⟨k + 1, by omega, by go_num, by rw [HS.out]; simp, HB.out.alloc HB.out.size _⟩, by simp [intOf]; omega⟩
      · go_wp2_with fail
        exact ⟨⟨k + 1, by omega, by go_num, by rw [HS.out]; simp, HB.out.alloc HB.out.size _⟩, by simp [intOf]; omega⟩
    · have hkl : k = l.length := by omega
      subst hkl
      rw [List.take_length]
      have hle := nulN_le l
      go_wp2_with fail
      go_ret
      exact ⟨rfl, HB.out⟩

def sumN (l : List F4) : Int := (l.map (·.2.2.1)).sum
theorem sumN_step {l : List F4} {k : Nat} (h : k < l.length) : sumN (l.take (k + 1)) = sumN (l.take k) + l[k].2.2.1 := by
  unfold sumN
  rw [List.take_succ_eq_append_getElem h]; simp only [List.map_append, List.sum_append_int, List.map_cons, List.map_nil, List.sum_cons, List.sum_nil]; omega
def Wds (l : List F4) : Prop := ∀ f ∈ l, 0 ≤ f.2.2.1 ∧ f.2.2.1 ≤ 254
theorem sumN_bd : ∀ {l : List F4}, Wds l → 0 ≤ sumN l ∧ sumN l ≤ 254 * l.length
  | [], _ => by simp [sumN]
  | f :: l, h => by
    have ih := sumN_bd (l := l) (fun g hg => h g (List.mem_cons_of_mem _ hg))
    have hf := h f (List.mem_cons_self ..)
    have e : sumN (f :: l) = f.2.2.1 + sumN l := by simp [sumN]
    rw [e]; simp only [List.length_cons]; omega
def lenN (l : List F4) : Int := 1 + flgN l + sumN l
theorem flgN_bd (l : List F4) : 0 ≤ flgN l ∧ flgN l ≤ l.length + 7 := by
  have := nulN_le l
  unfold flgN; omega
set_option maxHeartbeats 4000000 in
theorem length_any (b off c : Nat) (l : List F4) (w : World) (hl : l.length ≤ 200000) (hw : Wds l) (h : FdR w b off l) :
    Calls Tryz.prog 47 #[.slice (some ⟨b, off, none⟩) l.length c] w fun e w' => e = .returned (.int .i64 (lenN l)) ∧ Below w.heap.size w w' := by
  have CF := Lib.hid (fun W hW => flagBytes_any b off c l W hl hW)
  obtain ⟨g1, g2⟩ := flgN_bd l
  have hv : lenN l = 1 + flgN l + sumN l := rfl
  have HV := Lib.hid hv; clear hv
  generalize flgN l = fl at *
  go_enter Tryz.func47, Tryz.ntmps47
  go_wp2_with fail
  refine (CF.out _ h).mono ?_
  rintro e w1 ⟨rfl, hb1⟩
  have h1 := h.below hb1 h.1
  have HB1 := Lib.hid hb1
  clear hb1
  go_wp2_with fail
  go_loopw [3, 11] (fun n i wr => ∃ k : Nat, k ≤ l.length ∧ i = .int .i64 k ∧ n = .int .i64 (1 + fl + sumN (l.take k)) ∧ Below w.heap.size w wr ∧ FdR wr b off l) (fun _ i _ => l.length - (intOf i).toNat)
  case atStart => exact ⟨0, by omega, rfl, by simp [sumN], HB1.out, h1⟩
  case round =>
    obtain ⟨k, hk, rfl, rfl, hb, hf⟩ := hrel
    have HB := Lib.hid hb; clear hb
    by_cases hlt : k < l.length
    · have hbr := hf.1
      obtain ⟨c0, c1, c2, c3⟩ := hf.2 k hlt
      have HS := Lib.hid (sumN_step hlt)
      obtain ⟨s1, s2⟩ := sumN_bd (l := l.take k) (fun g hg => hw g (List.mem_of_mem_take hg))
      obtain ⟨d1, d2⟩ := hw _ (List.getElem_mem hlt)
      have hlk : (l.take k).length ≤ k := List.length_take_le _ _
      have HF := Lib.hid (fun (o : Obj) => hf.below ((Below.refl _ wr).alloc (Nat.le_refl _) o) hf.1)
      clear hf
      generalize l[k] = f at *
      generalize sumN (l.take k) = sk at *
      obtain ⟨nm, fk, wd, nu⟩ := f
      simp only at d1 d2
      go_wp2_with fail
      exact ⟨⟨k + 1, by omega, by go_num, by rw [HS.out]; congr 1; simp only; omega, HB.out.alloc HB.out.size _, HF.out _⟩, by simp [intOf]; omega⟩
    · have hkl : k = l.length := by omega
      subst hkl
      rw [List.take_length]
      obtain ⟨s1, s2⟩ := sumN_bd hw
      go_wp2_with fail
      go_ret
      exact ⟨by rw [HV.out]; rfl, HB.out⟩

/-! The names: a map. -/
theorem ownsMap_lookup_bool {P : Program} {k e t : TypeId} {w : World} {b n : Nat} {D : DataW Unit} (h : w.ownsMap P k (plainElem P e) b n D) (K : Keyed P k) (ht : P.underlying t = some (.map k e)) (he : P.underlying e = some .bool) (hz : (zeroValue e).run P w = .ok (.bool false) w)
    {key : Value} {kl : Lit} (hkey : keyOf P k key = some kl) : ∃ c, (Instr.lookup t (.map (some b)) key false).run P w = .ok (.bool c) w ∧ D.atKey kl (.lit (.bool false)) = .lit (.bool c) := by
  obtain ⟨v, ps, hrun, hv⟩ := h.lookup K ht hz (plainElem_bool he false) hkey
  unfold plainElem at hv
  rw [he] at hv
  cases v <;> simp at hv
  exact ⟨_, hrun, hv.1.symm⟩
theorem lawS : Keyed Tryz.prog 9 := string_keyed Tryz.underlying9
theorem zeroB (w : World) : (zeroValue 4).run Tryz.prog w = .ok (.bool false) w := by kernel_rfl
def names (l : List F4) : List (List UInt8) := l.map (·.1.data.toList)
def twiceB (l : List F4) : Bool := !decide (names l).Nodup
/-- What a map of names says. -/
def MapIs (D : DataW Unit) (ns : List (List UInt8)) : Prop := IsMap D ∧ ∀ s : List UInt8, D.atKey (.string s) (.lit (.bool false)) = .lit (.bool (decide (s ∈ ns)))
theorem MapIs.put {D : DataW Unit} {ns : List (List UInt8)} (h : MapIs D ns) (s : List UInt8) : MapIs (D.put (.string s) (.lit (.bool true))) (ns ++ [s]) := by
  refine ⟨?_, fun t => ?_⟩
  · obtain ⟨es, rfl⟩ := h.1
    exact ⟨_, rfl⟩
  · by_cases e : t = s
    · subst e
      rw [atKey_put_same h.1 (by exact trivial)]
      simp
    · rw [atKey_put_other (by intro e'; apply e; injection e'), h.2 t]
      simp [e]

theorem names_step {l : List F4} {k : Nat} (h : k < l.length) : names (l.take (k + 1)) = names (l.take k) ++ [l[k].1.data.toList] := by
  unfold names; rw [List.take_succ_eq_append_getElem h]; rw [List.map_append]; rfl
theorem names_split {l : List F4} {k : Nat} (h : k < l.length) : names l = names (l.take k) ++ l[k].1.data.toList :: names (l.drop (k + 1)) := by
  unfold names
  conv => lhs; rw [← List.take_append_drop k l, List.drop_eq_getElem_cons h]
  rw [List.map_append, List.map_cons]
theorem twice_yes {l : List F4} {k : Nat} (h : k < l.length) (hm : l[k].1.data.toList ∈ names (l.take k)) : twiceB l = true := by
  unfold twiceB
  rw [names_split h]
  simp only [Bool.not_eq_true', decide_eq_false_iff_not]
  intro hn
  have := (List.nodup_append.1 hn).2.2 _ hm _ (List.mem_cons_self ..)
  exact this rfl
theorem twice_no {l : List F4} (h : (names (l.take l.length)).Nodup) : twiceB l = false := by
  unfold twiceB
  rw [List.take_length] at h
  simp [h]
theorem nodup_step {l : List F4} {k : Nat} (h : k < l.length) (hn : (names (l.take k)).Nodup) (hm : l[k].1.data.toList ∉ names (l.take k)) : (names (l.take (k + 1))).Nodup := by
  rw [names_step h, List.nodup_append]
  refine ⟨hn, by simp, ?_⟩
  intro a ha b hb e
  rw [List.mem_singleton.1 hb] at e
  subst e; exact hm ha
theorem mm_run (n : Int) (W : World) : (Instr.makeMap 98 (some (.int .i64 n))).run Tryz.prog W = .ok (.map (some W.heap.size)) (W.alloc (.map #[] 0)) := by
  simp [Instr.makeMap, run_underlying Tryz.underlying98, asInt, go_sem]
set_option maxHeartbeats 4000000 in
theorem hasTwice_any (b off c : Nat) (l : List F4) (w : World) (hl : l.length ≤ 200000) (hs : ∀ f ∈ l, f.1.size ≤ maxLen) (h : FdR w b off l) :
    Calls Tryz.prog 56 #[.slice (some ⟨b, off, none⟩) l.length c] w fun e w' => e = .returned (.bool (twiceB l)) ∧ Below w.heap.size w w' := by
  have HMM := Lib.hid (fun n W => mm_run n W)
  have hm0 := World.ownsMap_made (H := Unit) w Tryz.prog 9 (plainElem Tryz.prog 4)
  have hb0 : Below w.heap.size w (w.alloc (.map #[] 0)) := (Below.refl _ _).alloc (Nat.le_refl _) _
  have h1 := h.below hb0 h.1
  have HB0 := Lib.hid hb0; clear hb0
  have hmm := HMM.out
  go_enter Tryz.func56, Tryz.ntmps56
  go_wp2_with fail
  clear hmm
  go_loopw [11] (fun i wr => ∃ (k : Nat) (D : DataW Unit), k ≤ l.length ∧ i = .int .i64 k ∧ wr.ownsMap Tryz.prog 9 (plainElem Tryz.prog 4) w.heap.size k D ∧ MapIs D (names (l.take k)) ∧ (names (l.take k)).Nodup ∧ Below w.heap.size w wr ∧ FdR wr b off l) (fun i _ => l.length - (intOf i).toNat)
  case atStart => exact ⟨0, .map [], by omega, rfl, hm0, ⟨isMap_empty, fun s => by simp [names]; rfl⟩, by simp [names], HB0.out, h1⟩
  case round =>
    obtain ⟨k, D, hk, rfl, hown, hD, hnd, hb, hf⟩ := hrel
    have HB := Lib.hid hb; clear hb
    by_cases hlt : k < l.length
    · have hbr := hf.1
      obtain ⟨c0, c1, c2, c3⟩ := hf.2 k hlt
      have hsz := hs _ (List.getElem_mem hlt)
      have HY := Lib.hid (twice_yes hlt)
      have HN := Lib.hid (nodup_step hlt hnd)
      have HS := Lib.hid (names_step hlt)
      have HF := Lib.hid hf
      clear hf hnd
      generalize l[k] = f at *
      obtain ⟨nm, fk, wd, nu⟩ := f
      simp only at hsz HY HN HS
      have hkey := WideMaps.keyOf_string_mk (P := Tryz.prog) Tryz.underlying9 hsz
      have hown1 := hown.alloc (.cells #[.string nm, .int .i64 fk, .int .i64 wd, .bool nu] 49)
      obtain ⟨cc, hrun, hat⟩ := ownsMap_lookup_bool hown1 lawS Tryz.underlying98 Tryz.underlying4 (zeroB _) hkey
      rw [hD.2] at hat
      have HD := Lib.hid (hD.put nm.data.toList)
      clear hD
      by_cases hm : nm.data.toList ∈ names (l.take k)
      · have hcc : cc = true := by simpa [hm] using hat.symm
        subst hcc
        have HT := Lib.hid (HY.out hm)
        clear hat hm HY HN HS hkey hown1
        go_wp2_with fail
        (try rw [Exit.noGoto_ret])
        go_ret
        exact ⟨by rw [HT.out]; rfl, HB.out.alloc HB.out.size _⟩
      · have hcc : cc = false := by simpa [hm] using hat.symm
        subst hcc
        have HT := Lib.hid (HN.out hm)
        clear hat hm HY HN
        have HK := Lib.hid hkey
        have HO := Lib.hid hown1
        clear hkey hown1
        go_wp2_with (at_mapUpdate; refine wpList_mapUpdate_own _ rfl _ _ _ 98 rfl 9 4 lawS Tryz.underlying98 _ w.heap.size k _ rfl HO.out (by unfold maxLen; omega) _ _ _ rfl rfl HK.out _ [] (plainElem_bool Tryz.underlying4 true) ?_; intro w1 hown2 hgrow1)
        have hbx : Below w.heap.size wr w1 := ((Below.refl _ wr).alloc HB.out.size _).grown hgrow1 (by have := HB.out.size; simp; omega) (fun j e => by cases e; exact Nat.le_refl _)
        exact ⟨⟨k + 1, _, by omega, by go_num, hown2, by rw [HS.out]; exact HD.out, HT.out, HB.out.trans hbx, HF.out.below hbx h.1⟩, by simp [intOf]; omega⟩
    · have hkl : k = l.length := by omega
      subst hkl
      have HT := Lib.hid (twice_no hnd)
      go_wp2_with fail
      go_ret
      exact ⟨by rw [HT.out]; rfl, HB.out⟩

/-- What is wrong with fields. -/
def flE (l : List F4) : Int :=
  if l = [] then 1 else if l.all (fun f => fldB f.1 f.2.1 f.2.2.1) = false then 1 else if twiceB l = true then 5 else if 16 < l.length ∨ 2000 < lenN l then 3 else 0
def Alln (l : List F4) : Prop := ∀ f ∈ l, fldB f.1 f.2.1 f.2.2.1 = true
theorem alln_wds {l : List F4} (h : Alln l) : Wds l := fun f hf => by
  have hw : wdB f.2.1 f.2.2.1 = true := by have := h f hf; unfold fldB at this; cases q : wdB f.2.1 f.2.2.1 <;> simp_all
  unfold wdB at hw
  by_cases h1 : f.2.1 = 1
  · rw [if_pos h1] at hw; simp at hw; omega
  · rw [if_neg h1] at hw
    by_cases h2 : f.2.1 = 2
    · rw [if_pos h2] at hw; simp at hw; omega
    · rw [if_neg h2] at hw
      by_cases h4 : f.2.1 = 4
      · rw [if_pos h4] at hw; simp at hw; omega
      · rw [if_neg h4] at hw
        by_cases h35 : f.2.1 = 3 ∨ f.2.1 = 5
        · rw [if_pos h35] at hw; simp at hw; omega
        · rw [if_neg h35] at hw; cases hw
theorem flE_no {l : List F4} {k : Nat} (h : k < l.length) (hf : fldB l[k].1 l[k].2.1 l[k].2.2.1 = false) : flE l = 1 := by
  unfold flE
  rw [if_neg (by intro e; subst e; simp at h), if_pos]
  rw [List.all_eq_false]
  exact ⟨l[k], List.getElem_mem h, by simpa using hf⟩
theorem flE_all {l : List F4} (h : Alln l) (hn : l ≠ []) : flE l = if twiceB l = true then 5 else if 16 < l.length ∨ 2000 < lenN l then 3 else 0 := by
  unfold flE
  rw [if_neg hn, if_neg]
  intro e
  rw [List.all_eq_false] at e
  obtain ⟨f, hf, hx⟩ := e
  exact hx (h f hf)
set_option maxHeartbeats 4000000 in
theorem ValidateFields_any (b off c : Nat) (l : List F4) (w : World) (hn : l ≠ []) (hl : l.length ≤ 200000) (hs : ∀ f ∈ l, f.1.size ≤ maxLen) (h : FdR w b off l) :
    Calls Tryz.prog 20 #[.slice (some ⟨b, off, none⟩) l.length c] w fun e w' => e = .returned (.int .i64 (flE l)) ∧ Below w.heap.size w w' := by
  have hl0 : 0 < l.length := List.length_pos_iff.2 hn
  have hl0' : (((l.length : Nat) : Int) == 0) = false := by simp; omega
  have CT := Lib.hid (fun W hW => hasTwice_any b off c l W hl hs hW)
  have CL := Lib.hid (fun W hw hW => length_any b off c l W hl hw hW)
  have HS := Lib.hid hs; clear hs
  have HE := Lib.hid (fun h => flE_all (l := l) h hn); clear hn
  go_enter Tryz.func20, Tryz.ntmps20
  go_wp2_with fail
  go_loopw [10] (fun i wr => ∃ k : Nat, k ≤ l.length ∧ i = .int .i64 k ∧ Alln (l.take k) ∧ Below w.heap.size w wr ∧ FdR wr b off l) (fun i _ => l.length - (intOf i).toNat)
  case atStart => exact ⟨0, by omega, rfl, by intro f hf; simp at hf, Below.refl _ _, h⟩
  case round =>
    obtain ⟨k, hk, rfl, ha, hb, hf⟩ := hrel
    have HB := Lib.hid hb; clear hb
    have HA := Lib.hid ha; clear ha
    by_cases hlt : k < l.length
    · have hbr := hf.1
      obtain ⟨c0, c1, c2, c3⟩ := hf.2 k hlt
      have CI := Lib.hid (fun W => isField_any l[k].1 l[k].2.1 l[k].2.2.1 l[k].2.2.2 W (HS.out _ (List.getElem_mem hlt)))
      have HN := Lib.hid (flE_no hlt)
      have HF := Lib.hid hf
      have HG : Hid (fldB l[k].1 l[k].2.1 l[k].2.2.1 = true → Alln (l.take (k + 1))) := Lib.hid (fun e f hf' => by
        rw [List.take_succ_eq_append_getElem hlt] at hf'
        rcases List.mem_append.1 hf' with q | q
        · exact HA.out f q
        · rw [List.mem_singleton.1 q]; exact e)
      clear hf
      unfold FldP at CI
      generalize l[k] = f at *
      obtain ⟨nm, fk, wd, nu⟩ := f
      simp only at CI HN HG
      have hbw : Below w.heap.size wr (wr.alloc (.cells #[.string nm, .int .i64 fk, .int .i64 wd, .bool nu] 49)) := (Below.refl _ _).alloc HB.out.size _
      have HBW := Lib.hid hbw; clear hbw
      cases hx : fldB nm fk wd
      · rw [hx] at CI
        have HT := Lib.hid (HN.out hx)
        clear hx HN HG
        go_wp2_with fail
        refine (CI.out _).mono ?_
        rintro e w1 ⟨rfl, hb1⟩
        have hz := HB.out.size
        go_wp2_with fail
        (try rw [Exit.noGoto_ret])
        go_ret
        exact ⟨by rw [HT.out]; rfl, (HB.out.trans HBW.out).trans (hb1.mono (by simp; omega))⟩
      · rw [hx] at CI
        have HT := Lib.hid (HG.out hx)
        clear hx HN HG
        go_wp2_with fail
        refine (CI.out _).mono ?_
        rintro e w1 ⟨rfl, hb1⟩
        have hz := HB.out.size
        have hb2 : Below w.heap.size wr w1 := HBW.out.trans (hb1.mono (by simp; omega))
        have HB2 := Lib.hid hb2
        clear hb1 hb2
        go_wp2_with fail
        exact ⟨⟨k + 1, by omega, by go_num, HT.out, HB.out.trans HB2.out, HF.out.below HB2.out h.1⟩, by simp [intOf]; omega⟩
    · have hkl : k = l.length := by omega
      subst hkl
      have ha := HA.out
      rw [List.take_length] at ha
      have hv := HE.out ha
      obtain ⟨e1, e2⟩ := flgN_bd l
      obtain ⟨e3, e4⟩ := sumN_bd (alln_wds ha)
      have hln : lenN l = 1 + flgN l + sumN l := rfl
      have CL2 := Lib.hid (fun W hW => CL.out W (alln_wds ha) hW)
      clear HA ha CL
      cases ht : twiceB l
      · rw [ht] at hv CT
        simp only [Bool.false_eq_true, if_false] at hv
        by_cases h16 : 16 < l.length
        · rw [if_pos (.inl h16)] at hv
          have HV := Lib.hid hv
          clear hv ht hln
          go_wp2_with fail
          refine (CT.out _ hf).mono ?_
          rintro e w1 ⟨rfl, hb1⟩
          go_wp2_with fail
          go_ret
          exact ⟨by rw [HV.out]; rfl, HB.out.trans (hb1.mono HB.out.size)⟩
        · by_cases h20 : 2000 < lenN l
          · rw [if_pos (.inr h20)] at hv
            have HV := Lib.hid hv
            clear hv ht hln
            generalize lenN l = ln at *
            go_wp2_with fail
            refine (CT.out _ hf).mono ?_
            rintro e w1 ⟨rfl, hb1⟩
            have hf1 := hf.below hb1 hf.1
            go_wp2_with fail
            refine (CL2.out _ hf1).mono ?_
            rintro e w2 ⟨rfl, hb2⟩
            go_wp2_with fail
            go_ret
            exact ⟨by rw [HV.out]; rfl, HB.out.trans ((hb1.trans (hb2.mono hb1.size)).mono HB.out.size)⟩
          · rw [if_neg (by omega)] at hv
            have HV := Lib.hid hv
            clear hv ht hln
            generalize lenN l = ln at *
            go_wp2_with fail
            refine (CT.out _ hf).mono ?_
            rintro e w1 ⟨rfl, hb1⟩
            have hf1 := hf.below hb1 hf.1
            go_wp2_with fail
            refine (CL2.out _ hf1).mono ?_
            rintro e w2 ⟨rfl, hb2⟩
            go_wp2_with fail
            go_ret
            exact ⟨by rw [HV.out]; rfl, HB.out.trans ((hb1.trans (hb2.mono hb1.size)).mono HB.out.size)⟩
      · rw [ht] at hv CT
        simp only [if_true] at hv
        have HV := Lib.hid hv
        clear hv ht hln
        go_wp2_with fail
        refine (CT.out _ hf).mono ?_
        rintro e w1 ⟨rfl, hb1⟩
        go_wp2_with fail
        go_ret
        exact ⟨by rw [HV.out]; rfl, HB.out.trans (hb1.mono HB.out.size)⟩
end Go.Proofs.YtcgfeeobkoomfaaGreatDoor
