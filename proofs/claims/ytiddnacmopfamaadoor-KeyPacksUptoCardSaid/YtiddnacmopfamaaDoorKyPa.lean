/- Lists of keys as bytes: the mathematics of Pack; Pack of the program. -/
import Derived.Test.YtiddnacmopfamaaDoorKyRow
import Derived.Test.YtiddnacmopfamaaDoorKyO
import Derived.Lib.AppendStr
namespace Go.Proofs.YtiddnacmopfamaaDoor
open Go.RowKit
set_option linter.unusedVariables false
set_option linter.unusedSimpArgs false
set_option maxRecDepth 40000

/-- out = append(out, a row of bytes...). -/
theorem app_list {w : World} {ops : Array Oper} {rest : List Oper} {o : Oper} {a : Act} {Q : Exit → Act → World → Prop} (hgd : o.guard = none) (s x : Operand)
    (ho : o.op = .call { callee := .builtin .append, args := #[s, x], argTypes := #[73, 73] })
    (base : Nat) (v : Value) (zs news : List Int) (hs : a.eval s = v) (hown : Own w base 5 .u8 v zs)
    (ad : Addr) (n c : Nat) (hx : a.eval x = .slice (some ad) n c) (hn : n = news.length) (hc : ∀ j, j < news.length → w.cell? (ad.add j) = some (.int .u8 (news.getD j 0))) (hlen : zs.length + news.length ≤ 1000000) (hbase : base ≤ w.heap.size)
    (h : ∀ v' w', Own w' base 5 .u8 v' (zs ++ news) → Below base w w' → w.grownBy w' v.ownBlock → wpList Tryd.prog ops Q rest (a.put o.dst v') w') : wpList Tryd.prog ops Q (o :: rest) a w := by
  obtain ⟨i0, hi0, hz0, hz1, hz2⟩ := info_parts info5
  subst hn
  refine wpList_append_own w hgd s x 73 ho base 5 i0 (.int .u8 0) 1 1 Tryd.underlying73 hi0 hz0 hz1 hz2 rfl (by decide) v zs.length _ hs hown ad news.length c (news.map (Value.int .u8)) hx (by simp) ?_ ?_ (by simp only [maxLen]; omega) (by omega) hbase ?_
  · intro j u hu
    rw [List.getElem?_map, Option.map_eq_some_iff] at hu
    obtain ⟨z, hz, rfl⟩ := hu
    obtain ⟨hj, rfl⟩ := List.getElem?_eq_some_iff.1 hz
    rw [hc j hj]
    simp [List.getD, hj]
  · intro u hu
    obtain ⟨z, _, rfl⟩ := List.mem_map.1 hu
    rfl
  · intro v' w' hown' hg _
    exact h v' w' (by unfold Own; simpa using hown') ((Below.refl _ _).grown hg hbase fun g hg' => (hown.block hg').1) hg
/-- out = append(out, a text...). -/
theorem app_text {w : World} {ops : Array Oper} {rest : List Oper} {o : Oper} {a : Act} {Q : Exit → Act → World → Prop} (hgd : o.guard = none) (s x : Operand)
    (ho : o.op = .call { callee := .builtin .append, args := #[s, x], argTypes := #[73, 9] })
    (base : Nat) (v : Value) (zs : List Int) (t : ByteArray) (hs : a.eval s = v) (hown : Own w base 5 .u8 v zs)
    (hx : a.eval x = .string t) (hlen : zs.length + t.size ≤ 1000000) (hbase : base ≤ w.heap.size)
    (h : ∀ v' w', Own w' base 5 .u8 v' (zs ++ bI t.data.toList) → Below base w w' → w.grownBy w' v.ownBlock → wpList Tryd.prog ops Q rest (a.put o.dst v') w') : wpList Tryd.prog ops Q (o :: rest) a w := by
  obtain ⟨i0, hi0, hz0, hz1, hz2⟩ := info_parts info5
  refine Lib.wpList_append_own_string w hgd s x 73 9 ho base 5 i0 Tryd.underlying73 Tryd.underlying9 hi0 hz0 hz1 hz2 v zs.length _ hs hown t hx (by simp only [maxLen]; omega) (by omega) hbase ?_
  intro v' w' hown' hg _
  refine h v' w' ?_ ((Below.refl _ _).grown hg hbase fun g hg' => (hown.block hg').1) hg
  unfold Own
  have e : (bI t.data.toList).length = t.size := by rw [bI_len]; rfl
  have e2 : (bI t.data.toList).map (Value.int .u8) = Lib.strCells t := by unfold bI Lib.strCells; rw [List.map_map]; rfl
  rw [List.length_append, e, List.map_append, e2]
  exact hown'

/-- What stands for a key behind another one. -/
def entL (last k : ByteArray) : List UInt8 := [UInt8.ofNat (lcp last.data.toList k.data.toList), UInt8.ofNat (k.size - lcp last.data.toList k.data.toList)] ++ k.data.toList.drop (lcp last.data.toList k.data.toList)
def packF : ByteArray → List ByteArray → List UInt8 → List UInt8 × Int
  | _, [], acc => (acc, 0)
  | last, k :: ks, acc => if Lib.compareBytes k.data.toList last.data.toList < 0 then ([], 1) else packF k ks (acc ++ entL last k)
def bigS (ss : List ByteArray) : Bool := ss.any fun s => decide (100 < s.size)
def packR (ss : List ByteArray) : List UInt8 × Int := if 300 < ss.length then ([], 3) else if bigS ss = true then ([], 3) else packF nos ss []
theorem bigS_take {ss : List ByteArray} {k : Nat} (h : k < ss.length) : bigS (ss.take (k + 1)) = (bigS (ss.take k) || decide (100 < (ss.getD k nos).size)) := by
  unfold bigS
  rw [List.take_succ_eq_append_getElem h, List.any_append]
  have e : ss.getD k nos = ss[k] := by simp [List.getD, h]
  rw [e]; simp
theorem bigS_hit {ss : List ByteArray} {k : Nat} (h : k < ss.length) (hx : 100 < (ss.getD k nos).size) : bigS ss = true := by
  unfold bigS
  rw [List.any_eq_true]
  have e : ss.getD k nos = ss[k] := by simp [List.getD, h]
  exact ⟨ss[k], List.getElem_mem h, by rw [e] at hx; simpa using hx⟩
theorem bigS_no {ss : List ByteArray} {k : Nat} (hb : bigS ss = false) (h : k < ss.length) : (ss.getD k nos).size ≤ 100 := by
  rcases Nat.lt_or_ge 100 (ss.getD k nos).size with h1 | h1
  · rw [bigS_hit h h1] at hb; cases hb
  · exact h1
theorem entL_len (last k : ByteArray) : (entL last k).length ≤ 2 + k.size := by
  unfold entL
  have hl : k.data.toList.length = k.size := rfl
  simp
  omega
theorem dropS {ss : List ByteArray} {j : Nat} (h : j < ss.length) : ss.drop j = ss.getD j nos :: ss.drop (j + 1) := by
  rw [List.drop_eq_getElem_cons h]; simp [List.getD, h]
theorem packF_bad {last : ByteArray} {ss : List ByteArray} {acc : List UInt8} {j : Nat} (h : j < ss.length) (hx : Lib.compareBytes (ss.getD j nos).data.toList last.data.toList < 0) : packF last (ss.drop j) acc = ([], 1) := by
  rw [dropS h, packF, if_pos hx]
theorem packF_good {last : ByteArray} {ss : List ByteArray} {acc : List UInt8} {j : Nat} (h : j < ss.length) (hx : ¬ Lib.compareBytes (ss.getD j nos).data.toList last.data.toList < 0) : packF last (ss.drop j) acc = packF (ss.getD j nos) (ss.drop (j + 1)) (acc ++ entL last (ss.getD j nos)) := by
  rw [dropS h, packF, if_neg hx]
theorem packF_end {last : ByteArray} {ss : List ByteArray} {acc : List UInt8} : packF last (ss.drop ss.length) acc = (acc, 0) := by
  rw [List.drop_length, packF]

/-- Bytes and an error as an answer. -/
def PRes (w : World) (r : List UInt8 × Int) (e : Ending) (w' : World) : Prop := ∃ v, e = .returned (.tuple #[v, .int .i64 r.2]) ∧ Own w' w.heap.size 5 .u8 v (bI r.1) ∧ Below w.heap.size w w'
theorem PRes.of {w w' : World} {r : List UInt8 × Int} {l : List UInt8} {u : Int} {v : Value} (hr : r = (l, u)) (ho : Own w' w.heap.size 5 .u8 v (bI l)) (hb : Below w.heap.size w w') : PRes w r (.returned (.tuple #[v, .int .i64 u])) w' := by
  subst hr
  exact ⟨v, rfl, ho, hb⟩
theorem u8w (n : Nat) (h : n < 256) : IntKind.u8.wrap (n : Int) = (n : Int) := by
  have h8 : ∀ m : Fin 256, IntKind.u8.wrap ((m.val : Nat) : Int) = ((m.val : Nat) : Int) := by decide
  exact h8 ⟨n, h⟩
theorem ext_drop (k : ByteArray) (n : Nat) : (k.extract n k.size).data.toList = k.data.toList.drop n := by
  rw [Lib.extract_to_end]

set_option maxHeartbeats 8000000 in
theorem Pack_any (A : Option Addr) (ss : List ByteArray) (cap : Nat) (w : World) (hl : ss.length ≤ 140737488355328) (hr : RdS w A ss) (hz : ∀ s ∈ ss, s.size ≤ 140737488355328) :
    Calls Tryd.prog 46 #[.slice A ss.length cap] w (PRes w (packR ss)) := by
  have HR := Lib.hid hr; clear hr
  have HZ : Hid (∀ j, j < ss.length → (ss.getD j nos).size ≤ 140737488355328) := Lib.hid (fun j hj => by
    have e : ss.getD j nos = ss[j] := by simp [List.getD, hj]
    rw [e]; exact hz _ (List.getElem_mem hj))
  clear hz
  by_cases h300 : 300 < ss.length
  · have HE : Hid (packR ss = ([], 3)) := Lib.hid (by unfold packR; rw [if_pos h300])
    have i1 : (300 : Int) < ss.length := by omega
    generalize packR ss = r at *
    go_enter Tryd.func46, Tryd.ntmps46
    go_wp2_with fail
    go_ret2
    exact PRes.of HE.out (Own.nil _ _ _ _) (Below.refl _ _)
  have i1 : ¬ (300 : Int) < ss.length := by omega
  have HP : Hid (packR ss = if bigS ss = true then ([], 3) else packF nos ss []) := Lib.hid (by unfold packR; rw [if_neg h300])
  generalize packR ss = r at *
  go_enter Tryd.func46, Tryd.ntmps46
  go_wp2_with fail
  go_loop [16] (fun i => ∃ k : Nat, k ≤ ss.length ∧ i = .int .i64 k ∧ bigS (ss.take k) = false) (fun i => ss.length - (intOf i).toNat)
  case atStart => exact ⟨0, by omega, rfl, by simp [bigS]⟩
  case round =>
    obtain ⟨k, hk, rfl, hno⟩ := hrel
    have HNO := Lib.hid hno; clear hno
    by_cases hlt : k < ss.length
    · obtain ⟨ad, rfl, hbad, hcell⟩ := HR.out k hlt
      have hzk := HZ.out k hlt
      have HT := Lib.hid (bigS_take hlt)
      have HI := Lib.hid (fun h => bigS_hit hlt h)
      generalize ss.getD k nos = x at *
      by_cases hx : 100 < x.size
      · have i2 : (100 : Int) < x.size := by omega
        have HE : Hid (r = ([], 3)) := Lib.hid (by rw [HP.out, if_pos (HI.out hx)])
        clear hx
        go_wp2_with fail
        go_ret2
        exact PRes.of HE.out (Own.nil _ _ _ _) (Below.refl _ _)
      · have i2 : ¬ (100 : Int) < x.size := by omega
        have HN : Hid (bigS (ss.take (k + 1)) = false) := Lib.hid (by rw [HT.out, HNO.out]; simpa using hx)
        clear hx
        go_wp2_with fail
        go_round
        case rel => exact ⟨k + 1, by omega, by go_num, HN.out⟩
        case measure => simp [intOf]; omega
    · have hkl : k = ss.length := by omega
      have HB0 : Hid (bigS ss = false) := Lib.hid (by have := HNO.out; rw [hkl, List.take_length] at this; exact this)
      have HPF : Hid (r = packF nos ss []) := Lib.hid (by rw [HP.out, HB0.out, if_neg (by simp)])
      clear hkl HP HNO
      go_wp2_with fail
      go_loopw [6, 7, 26] (fun o l i wr => ∃ (j : Nat) (last : ByteArray) (acc : List UInt8), j ≤ ss.length ∧ l = .string last ∧ i = .int .i64 j ∧ last.size ≤ 100 ∧ acc.length ≤ 102 * j ∧ Own wr w.heap.size 5 .u8 o (bI acc) ∧ Hid (r = packF last (ss.drop j) acc) ∧ Below w.heap.size w wr) (fun _ _ i _ => ss.length - (intOf i).toNat)
      case atStart => exact ⟨0, nos, [], by omega, rfl, rfl, by decide, by simp, Own.nil _ _ _ _, HPF, Below.refl _ _⟩
      case round =>
        obtain ⟨j, last, acc, hj, rfl, rfl, hlast, hacc, hown, HREL, hbel⟩ := hrel
        have HO := Lib.hid hown; clear hown
        have HB := Lib.hid hbel; clear hbel
        by_cases hjl : j < ss.length
        · obtain ⟨ad, rfl, hbad, hcl⟩ := HR.out j hjl
          have hcell := (HB.out.cell (p := ad.add j) (by rw [block_of_plus]; exact hbad)).trans hcl
          clear hcl
          have hx100 := bigS_no HB0.out hjl
          have HBAD := Lib.hid (fun h => packF_bad (last := last) (acc := acc) hjl h)
          have HGOOD := Lib.hid (fun h => packF_good (last := last) (acc := acc) hjl h)
          have hentl := entL_len last (ss.getD j nos)
          generalize ss.getD j nos = x at *
          have hless : Op.bytesLess x.toList last.toList = decide (Lib.compareBytes x.data.toList last.data.toList < 0) := by rw [Lib.toList_data, Lib.toList_data]; exact less_cmp _ _
          by_cases hc : Lib.compareBytes x.data.toList last.data.toList < 0
          · have hls : Op.bytesLess x.toList last.toList = true := by rw [hless]; simpa using hc
            have HE : Hid (r = ([], 1)) := Lib.hid (by rw [HREL.out]; exact HBAD.out hc)
            clear hless hc
            go_wp2_with fail
            go_ret2
            exact PRes.of HE.out (Own.nil _ _ _ _) HB.out
          · have hls : Op.bytesLess x.toList last.toList = false := by rw [hless]; simpa using hc
            have HG := Lib.hid (HREL.out.trans (HGOOD.out hc))
            have HCM := Lib.hid (fun W => common_any last x W (by unfold maxLen; omega) (by unfold maxLen; omega))
            have hn := lcp_le last.data.toList x.data.toList
            have hnl : lcp last.data.toList x.data.toList ≤ 100 ∧ lcp last.data.toList x.data.toList ≤ x.size := ⟨by have h1 : last.data.toList.length = last.size := rfl; omega, hn.2⟩
            have HEN : Hid (bI (entL last x) = [((lcp last.data.toList x.data.toList : Nat) : Int), ((x.size - lcp last.data.toList x.data.toList : Nat) : Int)] ++ bI (x.data.toList.drop (lcp last.data.toList x.data.toList))) := Lib.hid (by
              unfold entL
              rw [bI_app]
              congr 1
              simp [bI]
              omega)
            clear hless hc hn
            generalize lcp last.data.toList x.data.toList = n at *
            obtain ⟨hn1, hn2⟩ := hnl
            have hw1 := u8w n (by omega)
            have hw2 := u8w (x.size - n) (by omega)
            rw [show ((x.size - n : Nat) : Int) = (x.size : Int) - n by omega] at hw2
            have HW1 := Lib.hid hw1
            have i3 : (0 : Int) ≤ n := by omega
            have i4 : (n : Int) ≤ x.size := by omega
            have i5 : (x.size : Int) ≤ 100 := by omega
            have HXE := Lib.hid (ext_drop x n)
            have hxz : (x.extract n x.size).size = x.size - n := by rw [ByteArray.size_extract]; omega
            go_wp2_with fail
            refine (HCM.out _).mono ?_
            rintro e w1 ⟨rfl, hb1⟩
            have HB1 := Lib.hid (HB.out.trans (hb1.mono HB.out.size))
            have HO1 := Lib.hid (HO.out.below hb1 (Nat.le_refl _)); clear hb1
            have HO2 := Lib.hid (HO1.out.alloc (.cells #[.int .u8 (n : Int), .int .u8 ((x.size : Int) - n)] 5))
            have HB2 := Lib.hid (HB1.out.alloc HB1.out.size (.cells #[.int .u8 (n : Int), .int .u8 ((x.size : Int) - n)] 5))
            have HC2 : Hid (∀ j, j < [(n : Int), (x.size : Int) - n].length → (w1.alloc (.cells #[.int .u8 (n : Int), .int .u8 ((x.size : Int) - n)] 5)).cell? ((⟨w1.heap.size, 0, none⟩ : Addr).add j) = some (.int .u8 ([(n : Int), (x.size : Int) - n].getD j 0))) := Lib.hid (fun j hj => by
              rcases (show j = 0 ∨ j = 1 by simp at hj; omega) with rfl | rfl <;> simp [Addr.add])
            have HAL : Hid ((bI acc).length ≤ 102 * ss.length) := Lib.hid (by rw [bI_len]; omega)
            go_wp2_with (first
              | (at_builtin; refine app_list rfl (.tmp 36) (.tmp 44) rfl w.heap.size _ _ [(n : Int), (x.size : Int) - n] rfl HO2.out ⟨w1.heap.size, 0, none⟩ 2 2 rfl rfl HC2.out (by have := HAL.out; simp; omega) HB2.out.size ?_; intro v3 w3 ho3 hb3 _; have HO3 := Lib.hid ho3; have HB3 := Lib.hid (HB2.out.trans hb3); clear ho3 hb3)
              | (at_builtin; refine app_text rfl (.tmp 46) (.tmp 49) rfl w.heap.size _ _ (x.extract n x.size) rfl HO3.out rfl (by have := HAL.out; simp; omega) HB3.out.size ?_; intro v4 w4 ho4 hb4 _; have HO4 := Lib.hid ho4; have HB4 := Lib.hid (HB3.out.trans hb4); clear ho4 hb4))
            go_roundw
            case rel => exact ⟨j + 1, x, acc ++ entL last x, by omega, rfl, by go_num, hx100, by rw [List.length_append]; omega, HO4.out.of_eq (by rw [bI_app, HEN.out, HXE.out, List.append_assoc]; simp; omega), HG, HB4.out⟩
            case measure => simp [intOf]; omega
        · have hjj : j = ss.length := by omega
          have HE : Hid (r = (acc, 0)) := Lib.hid (by rw [HREL.out, hjj]; exact packF_end)
          clear hjj
          go_wp2_with fail
          go_ret2
          exact PRes.of HE.out HO.out HB.out
end Go.Proofs.YtiddnacmopfamaaDoor
