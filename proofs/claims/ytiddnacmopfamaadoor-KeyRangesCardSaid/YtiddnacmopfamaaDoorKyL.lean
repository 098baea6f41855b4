/- The walk of KeyBegins. -/
import Derived.Test.YtiddnacmopfamaaDoorKyN
namespace Go.Proofs.YtiddnacmopfamaaDoor
open Go.RowKit
set_option linter.unusedVariables false
set_option linter.unusedSimpArgs false
set_option maxRecDepth 40000

def pgN (n : Int) : Nat := (((n.tmod 6 + 6) % 6) % 3).toNat
def clN (n : Int) : Nat := (((n.tmod 6 + 6) % 6) / 3).toNat
theorem pg_lt (n : Int) : pgN n < 3 ∧ clN n < 2 := by unfold pgN clN; omega
theorem page_any (n : Int) (w : World) : Calls Tryd.prog 21 #[.int .i64 n] w fun e w' => e = .returned (.tuple #[.int .i64 (pgN n), .int .i64 (clN n)]) ∧ w = w' := by
  have h1 : -5 ≤ n.tmod 6 ∧ n.tmod 6 ≤ 5 := by
    have h := Int.tmod_lt_of_pos n (b := 6) (by omega)
    have h2 := Int.lt_tmod_of_pos n (b := 6) (by omega)
    omega
  obtain ⟨h2, h3⟩ := h1
  have e1 : (pgN n : Int) = n.tmod 6 % 6 % 3 := by unfold pgN; omega
  have e2 : (clN n : Int) = n.tmod 6 % 6 / 3 := by unfold clN; omega
  rw [e1, e2]
  clear e1 e2
  generalize hr : n.tmod 6 = r at *
  go_enter Tryd.func21, Tryd.ntmps21
  go_wp2
  go_ret2
  exact ⟨rfl, rfl⟩
theorem begins_any (s t : ByteArray) (w : World) (hs : s.size ≤ 300000) (ht : t.size ≤ 300000) :
    Calls Tryd.prog 36 #[.string s, .string t] w fun e w' => e = .returned (.bool (t.data.toList.isPrefixOf s.data.toList)) ∧ w = w' := by
  have hls : s.data.toList.length = s.size := rfl
  have hlt : t.data.toList.length = t.size := rfl
  by_cases h : t.size ≤ s.size
  · have i1 : (t.size : Int) ≤ s.size := by omega
    have hx : (s.extract 0 t.size).toList = s.data.toList.take t.size := by rw [take_ext _ _ h, Lib.toList_data, BA_data]
    have htl : t.toList = t.data.toList := Lib.toList_data t
    cases hp : t.data.toList.isPrefixOf s.data.toList
    · have hq : ((s.extract 0 t.size).toList == t.toList) = false := by
        rw [hx, htl, beq_eq_false_iff_ne]
        intro e
        have : t.data.toList <+: s.data.toList := by rw [← e]; exact List.take_prefix _ _
        rw [List.isPrefixOf_iff_prefix.2 this] at hp
        cases hp
      clear hx htl hp hls hlt
      go_enter Tryd.func36, Tryd.ntmps36
      go_wp2
      go_ret
      exact ⟨rfl, rfl⟩
    · have hq : ((s.extract 0 t.size).toList == t.toList) = true := by
        rw [hx, htl, beq_iff_eq]
        have := List.isPrefixOf_iff_prefix.1 hp
        rw [List.prefix_iff_eq_take] at this
        exact this.symm
      clear hx htl hp hls hlt
      go_enter Tryd.func36, Tryd.ntmps36
      go_wp2
      go_ret
      exact ⟨rfl, rfl⟩
  · have i1 : ¬ (t.size : Int) ≤ s.size := by omega
    have hp : t.data.toList.isPrefixOf s.data.toList = false := by
      cases hp : t.data.toList.isPrefixOf s.data.toList
      · rfl
      · have := (List.isPrefixOf_iff_prefix.1 hp).length_le
        omega
    rw [hp]
    clear hp hls hlt
    go_enter Tryd.func36, Tryd.ntmps36
    go_wp2
    go_ret
    exact ⟨rfl, rfl⟩
theorem wei0 (p : Nat) (s : ByteArray) (h : s.size ≤ 48) : wei48 p 0 s = s.data.toList := by
  unfold wei48
  have e : mapB (weiN p 0) = id := by funext u; simp [mapB, weiN]
  rw [e, List.take_of_length_le (by exact h)]
  simp
theorem key_begins (s t : ByteArray) (p : Nat) (hs : s.size ≤ 48) (ht : t.size ≤ 48) :
    (turnS false (prS p 0 s)).data.toList.isPrefixOf (turnS false (encS 4 0 t p 0)).data.toList = s.data.toList.isPrefixOf t.data.toList := by
  rw [turn_false, turn_false]
  unfold prS encS
  rw [if_pos rfl, BA_data, BA_data, wei0 p s hs, wei0 p t ht]
  have h := esc_begins s.data.toList t.data.toList
  simpa [List.isPrefixOf] using h

set_option maxHeartbeats 8000000 in
theorem keyBegins_any (s t : ByteArray) (n : Int) (w : World) (he : Env w) (hs : s.size ≤ 140737488355328) (ht : t.size ≤ 140737488355328) (hn : -9223372036854775808 ≤ n ∧ n ≤ 9223372036854775807) :
    Calls Tryd.prog 9 #[.string s, .string t, .int .i64 n] w fun e w' => e = .returned (.bool true) ∧ Below w.heap.size w w' := by
  have HE := Lib.hid he; clear he hn
  have C0 := Lib.hid (fun W h => known_any W h)
  by_cases hl : 48 < s.size ∨ 48 < t.size
  · by_cases h1 : 48 < s.size
    · have i1 : (48 : Int) < s.size := by omega
      go_enter Tryd.func9, Tryd.ntmps9
      go_wp2_with fail
      refine (C0.out _ HE.out).mono ?_
      rintro e w4 ⟨rfl, hb4⟩
      have HB4 := Lib.hid hb4; clear hb4
      go_wp2_with fail
      go_ret
      exact ⟨rfl, HB4.out⟩
    · have i1 : ¬ (48 : Int) < s.size := by omega
      have i2 : (48 : Int) < t.size := by omega
      go_enter Tryd.func9, Tryd.ntmps9
      go_wp2_with fail
      refine (C0.out _ HE.out).mono ?_
      rintro e w4 ⟨rfl, hb4⟩
      have HB4 := Lib.hid hb4; clear hb4
      go_wp2_with fail
      go_ret
      exact ⟨rfl, HB4.out⟩
  · have hs48 : s.size ≤ 48 := by omega
    have ht48 : t.size ≤ 48 := by omega
    have i1 : ¬ (48 : Int) < s.size := by omega
    have i2 : ¬ (48 : Int) < t.size := by omega
    have hP := Lib.hid (fun W => page_any n W)
    obtain ⟨g1, g2⟩ := pg_lt n
    have hw1 : wvE 4 0 s (pgN n) 0 = 0 := by
      rcases wv4 s (pgN n) 0 with ⟨a, _⟩ | ⟨_, a⟩
      · omega
      · rw [a]; unfold wpE; rw [if_pos (by omega)]
    have hw2 : wvE 4 0 t (pgN n) 0 = 0 := by
      rcases wv4 t (pgN n) 0 with ⟨a, _⟩ | ⟨_, a⟩
      · omega
      · rw [a]; unfold wpE; rw [if_pos (by omega)]
    have hp0 : pfE s (pgN n) 0 = 0 := by
      rcases pf_cases s (pgN n) 0 with ⟨a, _⟩ | ⟨_, a, _⟩ | ⟨_, _, a⟩
      · exact absurd hw1 a
      · omega
      · exact a
    have C1 := Lib.hid (fun W h => Prefix_any s (pgN n) 0 false W h (by omega))
    have C2 := Lib.hid (fun W h => Encode_any 4 0 t (pgN n) 0 false W h (by omega))
    have e1 : pfT s (pgN n) 0 false = turnS false (prS (pgN n) 0 s) := by unfold pfT; rw [if_pos hp0]; rfl
    have e2 : keyT 4 0 t (pgN n) 0 false = turnS false (encS 4 0 t (pgN n) 0) := by unfold keyT; rw [if_pos hw2]; rfl
    rw [hp0, e1] at C1
    rw [hw2, e2] at C2
    have hkb := key_begins s t (pgN n) hs48 ht48
    have hz1 : (turnS false (prS (pgN n) 0 s)).size ≤ 97 := by rw [turnS_size]; exact prS_size _ _ _
    have hz2 : (turnS false (encS 4 0 t (pgN n) 0)).size ≤ 200 := by rw [turnS_size]; exact enc_size _ _
    generalize turnS false (prS (pgN n) 0 s) = a at *
    generalize turnS false (encS 4 0 t (pgN n) 0) = k at *
    have C3 := Lib.hid (fun W => begins_any k a W (by omega) (by omega))
    have C4 := Lib.hid (fun W => begins_any t s W (by omega) (by omega))
    rw [hkb] at C3
    generalize s.data.toList.isPrefixOf t.data.toList = b at *
    generalize pgN n = p at *
    generalize clN n = c at *
    clear hkb hz1 hz2 e1 e2 hp0 hw1 hw2 g1 g2 hl
    go_enter Tryd.func9, Tryd.ntmps9
    go_wp2_with fail
    refine (hP.out _).mono ?_
    rintro e w0 ⟨rfl, rfl⟩
    go_wp2_with fail
    refine (C1.out _ HE.out).mono ?_
    rintro e w1 ⟨rfl, hb1⟩
    have HE1 := Lib.hid (HE.out.below hb1 (Nat.le_refl _))
    have HB1 := Lib.hid hb1; clear hb1
    go_wp2_with fail
    refine (Text_any _ _).mono ?_
    rintro e w2 ⟨rfl, hb2⟩
    have HE2 := Lib.hid (HE1.out.below hb2 (Nat.le_refl _))
    have HB2 := Lib.hid (HB1.out.trans (hb2.mono HB1.out.size)); clear hb2
    go_wp2_with fail
    refine (C2.out _ HE2.out).mono ?_
    rintro e w3 ⟨rfl, hb3⟩
    have HE3 := Lib.hid (HE2.out.below hb3 (Nat.le_refl _))
    have HB3 := Lib.hid (HB2.out.trans (hb3.mono HB2.out.size)); clear hb3
    go_wp2_with fail
    refine (C3.out _).mono ?_
    rintro e w4 ⟨rfl, rfl⟩
    go_wp2_with fail
    refine (C4.out _).mono ?_
    rintro e w5 ⟨rfl, rfl⟩
    cases b
    all_goals
      go_wp2_with fail
      refine (C0.out _ HE3.out).mono ?_
      rintro e w6 ⟨rfl, hb6⟩
      have HB6 := Lib.hid (HB3.out.trans (hb6.mono HB3.out.size)); clear hb6
      go_wp2_with fail
      go_ret
      exact ⟨rfl, HB6.out⟩
end Go.Proofs.YtiddnacmopfamaaDoor
