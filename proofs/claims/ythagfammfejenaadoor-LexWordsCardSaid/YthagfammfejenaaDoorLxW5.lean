/- The law of LexWords. -/
import Derived.Test.YthagfammfejenaaDoorLxW4
import Derived.Test.YthagfammfejenaaDoorEvK1
namespace Go.Proofs.YthagfammfejenaaDoor
open Go.RowKit
set_option linter.unusedVariables false
set_option linter.unusedSimpArgs false
set_option maxRecDepth 40000
set_option maxHeartbeats 8000000 in
theorem lexWords_any (s : ByteArray) (A : Option Addr) (ls : List ByteArray) (c : Nat) (w : World) (hs : Ev.NG ≤ w.heap.size) (hz : s.size ≤ 140737488355328) (hl : ls.length ≤ 140737488355328) (hzs : ∀ x ∈ ls, x.size ≤ 140737488355328) (hc : RdS w A ls) :
    Calls Tryd.prog 7 #[.string s, .slice A ls.length c] w fun e w' => e = .returned (.bool true) ∧ Below w.heap.size w w' := by
  have HF := Lib.hid (fun W h => Full_any s A ls c W hz hl hzs h)
  have HRF := Lib.hid (fun W h => refFull_any s A ls c W hz hl hzs h)
  have HN := Lib.hid (fun W => isName_any s W hz)
  have HRN := Lib.hid (fun W => refIsName_any s W hz)
  have HK := Lib.hid (fun W (h : Ev.NG ≤ W.heap.size) => Ev.known_any W h)
  have HZ := Lib.hid hs; clear hs
  have HC := Lib.hid hc; clear hc
  go_enter Tryd.func7, Tryd.ntmps7
  go_wp2_with fail
  go_loopw [5, 6] (fun n i wr => ∃ k : Nat, k ≤ ls.length ∧ (∃ m : Int, n = .int .i64 m) ∧ i = .int .i64 k ∧ wr = w) (fun n i _ => ls.length - (intOf i).toNat)
  case atStart => exact ⟨0, by omega, ⟨_, rfl⟩, rfl, rfl⟩
  case round =>
    obtain ⟨k, hk, ⟨m, rfl⟩, rfl, rfl⟩ := hrel
    by_cases h1 : k < ls.length
    · obtain ⟨ad, rfl, _, hck⟩ := HC.out k h1
      have i2 : (k : Int) < ls.length := by omega
      generalize ls.getD k nos = x at *
      go_wp2_with fail
      exact ⟨⟨k + 1, by omega, ⟨_, rfl⟩, by go_num, by first | rfl | trivial⟩, by simp [intOf]; omega⟩
    · have hkl : k = ls.length := by omega
      clear hkl
      by_cases hm : 20000 < m
      · have d1 : decide ((20000 : Int) < m) = true := by simpa using hm
        go_wp2_with fail
        refine (HK.out _ HZ.out).mono ?_
        rintro e w5 ⟨rfl, hb5⟩
        have HB5 := Lib.hid hb5; clear hb5
        go_wp2_with fail
        (try rw [Exit.noGoto_ret])
        go_ret
        exact ⟨rfl, HB5.out⟩
      · have d1 : decide ((20000 : Int) < m) = false := by simpa using hm
        go_wp2_with fail
        refine (HF.out _ HC.out).mono ?_
        rintro e w1 ⟨rfl, hb1⟩
        have HB1 := Lib.hid hb1; clear hb1
        go_wp2_with fail
        refine (HRF.out _ (HC.out.below HB1.out)).mono ?_
        rintro e w2 ⟨rfl, hb2⟩
        have HB2 := Lib.hid (HB1.out.trans (hb2.mono HB1.out.size)); clear hb2 HB1
        generalize hfs : fullS ls (capS s) = X
        generalize hfb : fullB ls (capS s) = q
        have e1 : (X.toList == X.toList) = true := by simp
        have e2 : (q == q) = true := by simp
        go_wp2_with fail
        refine (HN.out _).mono ?_
        rintro e w3 ⟨rfl, rfl⟩
        go_wp2_with fail
        refine (HRN.out _).mono ?_
        rintro e w3 ⟨rfl, rfl⟩
        generalize nameB s = q2
        have e3 : (q2 == q2) = true := by simp
        go_wp2_with fail
        refine (HK.out _ (Nat.le_trans HZ.out HB2.out.size)).mono ?_
        rintro e w5 ⟨rfl, hb5⟩
        have HB5 := Lib.hid (HB2.out.trans (hb5.mono HB2.out.size)); clear hb5 HB2
        go_wp2_with fail
        go_ret
        exact ⟨rfl, HB5.out⟩
theorem lexWords_law (s : ByteArray) (A : Option Addr) (ls : List ByteArray) (c : Nat) (w : World) (hs : Ev.NG ≤ w.heap.size) (hz : s.size ≤ 140737488355328) (hc : RdS w A ls) (hl : ls.length ≤ 140737488355328) (hzs : ∀ x ∈ ls, x.size ≤ 140737488355328) :
    Calls Tryd.prog 7 #[.string s, .slice A ls.length c] w fun e w' => e = .returned (.bool true) ∧ Below w.heap.size w w' := lexWords_any s A ls c w hs hz hl hzs hc
end Go.Proofs.YthagfammfejenaaDoor
