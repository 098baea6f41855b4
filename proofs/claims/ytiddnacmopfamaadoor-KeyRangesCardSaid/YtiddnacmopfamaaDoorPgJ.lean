/- Order of the reference. -/
import Derived.Test.YtiddnacmopfamaaDoorPgAll
import Derived.Test.YtiddnacmopfamaaDoorPgF
import Derived.Deep.QuietTactic
import Derived.BigQuiet
namespace Go.Proofs.YtiddnacmopfamaaDoor
open Go.RowKit
set_option linter.unusedVariables false
set_option linter.unusedSimpArgs false

theorem _root_.Go.Below.drewN {B : Nat} {a b : World} (h : Below B a b) (n : Nat) : Below B a (b.drewN n) := Dr.below h ⟨n, rfl⟩
theorem asked_two (c p : Int) (s t : ByteArray) (w : World) (hs : s.size ≤ maxLen) (hs' : t.size ≤ maxLen) :
    Calls Tryd.prog 60 #[.int .i64 2048, .slice (some ⟨w.heap.size, 0, none⟩) 2 2, .int .i64 c, .slice (some ⟨w.heap.size + 1, 0, none⟩) 1 1] ((w.alloc (.cells #[.string s, .string t] 9)).alloc (.cells #[.int .i64 p] 3)) fun e w' => e = .returned (.int .i64 (wrongN p c [s, t])) ∧ ((w.alloc (.cells #[.string s, .string t] 9)).alloc (.cells #[.int .i64 p] 3)) = w' := by
  rw [← asked_wrong]
  refine asked_any 2048 c [s, t] [p] ⟨w.heap.size, 0, none⟩ ⟨w.heap.size + 1, 0, none⟩ 2 1 _ (by simp) (by simp) (by simp [hs, hs']) (fun j hj => ?_) (fun j hj => ?_)
  · have := text_cells2 w s t j hj
    rw [World.cell?_alloc_lt _ _ _ (by
      have : ((⟨w.heap.size, 0, none⟩ : Addr).add j).block = w.heap.size := by unfold Addr.add; split <;> rfl
      rw [this]; simp)]
    exact this
  · have h0 : j = 0 := by simpa using hj
    subst h0
    have h := cell_new2 (w.alloc (.cells #[.string s, .string t] 9)) (.int .i64 p) 3
    rw [show (w.alloc (.cells #[.string s, .string t] 9)).heap.size = w.heap.size + 1 by simp] at h
    simp [Addr.add]

theorem wb_len (p c : Nat) (s : ByteArray) : (wb p c s).length = s.size := by simp [wb]
theorem wb_at {p c : Nat} (hp : p < 3) (hc : c < 2) (s : ByteArray) {k : Nat} (hk : k < s.size) : ((wb p c s).getD k 0).toNat = weiN p c (s[k].toNat) := by
  have hl : k < s.data.toList.length := hk
  unfold wb
  rw [getD_map8 _ _ hl]
  have h2 := mapB_nat (f := weiN p c) (b := s.data.toList.getD k 0) (wei_lt (byte_lt _) hp hc)
  rw [h2, byte_at s k hk]
theorem cmp_step {l m : List UInt8} {k : Nat} (h1 : k < l.length) (h2 : k < m.length) : Lib.compareBytes (l.drop k) (m.drop k) = if (l.getD k 0).toNat < (m.getD k 0).toNat then -1 else if (m.getD k 0).toNat < (l.getD k 0).toNat then 1 else Lib.compareBytes (l.drop (k + 1)) (m.drop (k + 1)) := by
  rw [List.drop_eq_getElem_cons h1, List.drop_eq_getElem_cons h2, Lib.compareBytes]
  have e1 : l.getD k 0 = l[k] := by simp [List.getD, h1]
  have e2 : m.getD k 0 = m[k] := by simp [List.getD, h2]
  rw [e1, e2]
  simp only [UInt8.lt_iff_toNat_lt]
theorem cmpw_end {l m : List UInt8} {k : Nat} (h : l.length ≤ k ∨ m.length ≤ k) (hk1 : k ≤ l.length) (hk2 : k ≤ m.length) : Lib.compareBytes (l.drop k) (m.drop k) = if l.length < m.length then -1 else if m.length < l.length then 1 else 0 := by
  by_cases hl : l.length ≤ k
  · rw [List.drop_eq_nil_of_le hl]
    by_cases hm : m.length ≤ k
    · rw [List.drop_eq_nil_of_le hm, if_neg (by omega), if_neg (by omega)]; rfl
    · rw [List.drop_eq_getElem_cons (by omega), if_pos (by omega)]; rfl
  · have hm : m.length ≤ k := by omega
    rw [List.drop_eq_nil_of_le hm, List.drop_eq_getElem_cons (by omega), if_neg (by omega), if_pos (by omega)]; rfl

set_option maxHeartbeats 8000000 in
theorem refOrder_any (s t : ByteArray) (p c : Int) (w : World) (hs : s.size ≤ maxLen) (hs' : t.size ≤ maxLen) :
    Calls Tryd.prog 26 #[.string s, .string t, .int .i64 p, .int .i64 c] w (ORes w (ordI s t p c) (wrongN p c [s, t])) := by
  have hcon := Lib.hid (asked_two c p s t w hs hs')
  have hb0 := Lib.hid (two_below w (.cells #[.string s, .string t] 9) (.cells #[.int .i64 p] 3))
  cases hz : decide (wrongN p c [s, t] = 0)
  · have hz : ¬ wrongN p c [s, t] = 0 := by simpa using hz
    have e1 : ordI s t p c = 0 := by simp [ordI, hz]
    rw [e1]
    generalize wrongN p c [s, t] = n at *
    have dn : (n != 0) = true := by simpa using hz
    clear hz e1
    go_enter Tryd.func26, Tryd.ntmps26
    go_wp2_with fail
    refine (hcon.out).mono ?_
    rintro e w1 ⟨rfl, rfl⟩
    go_wp2_with fail
    go_ret2
    exact ⟨rfl, hb0.out⟩
  · have hz : wrongN p c [s, t] = 0 := by simpa using hz
    obtain ⟨hp0, hp3, hc01, hss⟩ := wrong_zero hz
    have hs2 : s.size ≤ 2048 := hss s (by simp)
    have hs3 : t.size ≤ 2048 := hss t (by simp)
    obtain ⟨q, rfl⟩ : ∃ q : Nat, p = q := ⟨p.toNat, by omega⟩
    obtain ⟨d, rfl⟩ : ∃ d : Nat, c = d := ⟨c.toNat, by omega⟩
    have hq : q < 3 := by omega
    have hd : d < 2 := by omega
    have e1 : ordI s t q d = Lib.compareBytes (wb q d s) (wb q d t) := by simp [ordI, hz]
    rw [e1, hz]
    rw [hz] at hcon
    clear hz e1 hp0 hp3 hss hc01
    have LS := Lib.hid (wb_len q d s)
    have LT := Lib.hid (wb_len q d t)
    have AS := Lib.hid (fun (k : Nat) (h : k < s.size) => wb_at hq hd s h)
    have AT := Lib.hid (fun (k : Nat) (h : k < t.size) => wb_at hq hd t h)
    generalize wb q d s = l at *
    generalize wb q d t = m at *
    go_enter Tryd.func26, Tryd.ntmps26
    go_wp2_with fail
    refine (hcon.out).mono ?_
    rintro e w1 ⟨rfl, rfl⟩
    generalize (w.alloc (.cells #[.string s, .string t] 9)).alloc (.cells #[.int .i64 q] 3) = w0 at *
    go_wp2_with fail
    go_loopw [11] (fun i wr => ∃ k : Nat, k ≤ s.size ∧ k ≤ t.size ∧ i = .int .i64 k ∧ Hid (Lib.compareBytes l m = Lib.compareBytes (l.drop k) (m.drop k)) ∧ Below w.heap.size w wr) (fun i _ => s.size - (intOf i).toNat)
    case atStart => exact ⟨0, by omega, by omega, rfl, Lib.hid rfl, hb0.out⟩
    case round =>
      obtain ⟨k, hk, hk2, rfl, HE, hbel⟩ := hrel
      have HB := Lib.hid hbel; clear hbel
      by_cases hlt : k < s.size
      · by_cases hlt2 : k < t.size
        · have g1 : (k : Int) < s.size := by omega
          have g2 : (k : Int) < t.size := by omega
          have hst := cmp_step (l := l) (m := m) (k := k) (by rw [LS.out]; exact hlt) (by rw [LT.out]; exact hlt2)
          rw [AS.out k hlt, AT.out k hlt2] at hst
          have hx := s[k].toNat_lt
          have hy := t[k].toNat_lt
          generalize hxe : s[k].toNat = x at *
          generalize hye : t[k].toNat = y at *
          have W1 := Lib.hid (fun W => refWeight_any x q d hx hq hd W)
          have W2 := Lib.hid (fun W => refWeight_any y q d hy hq hd W)
          generalize weiN q d x = u at *
          generalize weiN q d y = v at *
          have HST := Lib.hid (HE.out.trans hst); clear hst
          go_wp2_with fail
          go_quiet (first
            | (go_at_call 61; with_reducible exact Calls.quiet_of_same ((W1.out _).mono fun e w' h => ⟨h.1, h.2.symm⟩))
            | (go_at_call 61; with_reducible exact Calls.quiet_of_same ((W2.out _).mono fun e w' h => ⟨h.1, h.2.symm⟩)))
          have HBq := Lib.hid (Below.drewN HB.out nq)
          generalize wr.drewN nq = wq at *
          by_cases huv : u < v
          · have hn : Lib.compareBytes l m = -1 := by rw [HST.out, if_pos huv]
            have HN := Lib.hid hn; clear hn HST
            have g3 : (u : Int) < v := by omega
            clear huv
            go_wp2_with fail
            go_ret2
            exact ⟨by rw [HN.out]; rfl, HBq.out⟩
          · by_cases hvu : v < u
            · have hn : Lib.compareBytes l m = 1 := by rw [HST.out, if_neg huv, if_pos hvu]
              have HN := Lib.hid hn; clear hn HST
              have g3 : ¬ (u : Int) < v := by omega
              have g4 : (v : Int) < u := by omega
              clear huv hvu
              go_wp2_with fail
              go_ret2
              exact ⟨by rw [HN.out]; rfl, HBq.out⟩
            · have hn : Lib.compareBytes l m = Lib.compareBytes (l.drop (k + 1)) (m.drop (k + 1)) := by rw [HST.out, if_neg huv, if_neg hvu]
              have HN := Lib.hid hn; clear hn HST
              have g3 : ¬ (u : Int) < v := by omega
              have g4 : ¬ (v : Int) < u := by omega
              clear huv hvu
              go_wp2_with fail
              go_roundw
              case rel => exact ⟨k + 1, by omega, by omega, by go_num, HN, HBq.out⟩
              case measure => simp [intOf]; omega
        · have g1 : (k : Int) < s.size := by omega
          have g2 : ¬ (k : Int) < t.size := by omega
          have hn : Lib.compareBytes l m = 1 := by
            rw [HE.out, cmpw_end (.inr (by rw [LT.out]; omega)) (by rw [LS.out]; omega) (by rw [LT.out]; omega), LS.out, LT.out, if_neg (by omega), if_pos (by omega)]
          have HN := Lib.hid hn; clear hn
          have g3 : ¬ (s.size : Int) < t.size := by omega
          have g4 : (t.size : Int) < s.size := by omega
          go_wp2_with fail
          go_ret2
          exact ⟨by rw [HN.out]; rfl, HB.out⟩
      · have g1 : ¬ (k : Int) < s.size := by omega
        have hn : Lib.compareBytes l m = if s.size < t.size then -1 else 0 := by
          rw [HE.out, cmpw_end (.inl (by rw [LS.out]; omega)) (by rw [LS.out]; omega) (by rw [LT.out]; omega), LS.out, LT.out]
          split
          · rfl
          · rw [if_neg (by omega)]
        by_cases h3 : s.size < t.size
        · rw [if_pos h3] at hn
          have HN := Lib.hid hn; clear hn
          have g3 : (s.size : Int) < t.size := by omega
          clear h3
          go_wp2_with fail
          go_ret2
          exact ⟨by rw [HN.out]; rfl, HB.out⟩
        · rw [if_neg h3] at hn
          have HN := Lib.hid hn; clear hn
          have g3 : ¬ (s.size : Int) < t.size := by omega
          have g4 : ¬ (t.size : Int) < s.size := by omega
          clear h3
          go_wp2_with fail
          go_ret2
          exact ⟨by rw [HN.out]; rfl, HB.out⟩
end Go.Proofs.YtiddnacmopfamaaDoor
