/- Range of the program: its errors. -/
import Derived.Test.YtiddnacmopfamaaDoorKyRb
import Derived.Test.YtiddnacmopfamaaDoorKyRc
namespace Go.Proofs.YtiddnacmopfamaaDoor
open Go.RowKit
set_option linter.unusedVariables false
set_option linter.unusedSimpArgs false
set_option maxRecDepth 40000
def rgE (op : ByteArray) (k n : Int) (s : ByteArray) (p c : Int) : Int :=
  if wvE k n s p c ≠ 0 then wvE k n s p c else if isO op = false then 1 else if k = 0 then 6 else 0
def RgR (w : World) (r : Int) (e : Ending) (w' : World) : Prop :=
  ∃ lo hi b, e = .returned (.tuple #[.string lo, .string hi, .bool b, .int .i64 r]) ∧ Below w.heap.size w w' ∧ (r ≠ 0 → lo = nos ∧ hi = nos ∧ b = false)
/-- The cells of two bounds. -/
def BC (w : World) (g : Nat) (lo hi : ByteArray) (a b : Bool) : Prop := w.cell? ⟨g, 0, none⟩ = some (.string lo) ∧ w.cell? ⟨g, 1, none⟩ = some (.string hi) ∧ w.cell? ⟨g, 2, none⟩ = some (.bool a) ∧ w.cell? ⟨g, 3, none⟩ = some (.bool b)
theorem cmp_size (op x : ByteArray) (cut : Bool) : (cmpV op x cut).1.size ≤ x.size ∧ (cmpV op x cut).2.1.size ≤ x.size := by
  have h0 : nos.size ≤ x.size := Nat.zero_le _
  unfold cmpV
  by_cases h1 : (op.toList == [60] || op.toList == [60, 61]) = true
  · rw [if_pos h1]; exact ⟨h0, Nat.le_refl _⟩
  · rw [if_neg h1]
    by_cases h2 : (op.toList == [62] || op.toList == [62, 61]) = true
    · rw [if_pos h2]; exact ⟨Nat.le_refl _, h0⟩
    · rw [if_neg h2]; exact ⟨Nat.le_refl _, Nat.le_refl _⟩
/-- Bounds as an answer. -/
def BRes (w : World) (e : Ending) (w' : World) : Prop := ∃ lo hi a b, e = .returned (bv lo hi a b) ∧ lo.size ≤ 1000 ∧ hi.size ≤ 1000 ∧ Below w.heap.size w w'
set_option maxHeartbeats 16000000 in
theorem Range_any (op : ByteArray) (k n : Int) (s : ByteArray) (p c : Int) (w : World) (he : Env w) (hs : s.size ≤ 40000) :
    Calls Tryd.prog 38 #[.string op, vv k n s, .bool true, .int .i64 p, .int .i64 c, .bool false] w (RgR w (rgE op k n s p c)) := by
  have hb0 : Below w.heap.size w (w.alloc (.cells #[.int .i64 k, .int .i64 n, .string s] 23)) := (Below.refl _ _).alloc (Nat.le_refl _) _
  have hb1 : Below w.heap.size w ((w.alloc (.cells #[.int .i64 k, .int .i64 n, .string s] 23)).alloc (.cells #[.int .i64 k, .int .i64 n, .string s] 23)) := hb0.alloc (by simp) _
  have hv0 := VCell.new w k n s 23
  have hv1 := VCell.new (w.alloc (.cells #[.int .i64 k, .int .i64 n, .string s] 23)) k n s 23
  have hv0' := hv0.below (Below.of_alloc (w.alloc (.cells #[.int .i64 k, .int .i64 n, .string s] 23)) (.cells #[.int .i64 k, .int .i64 n, .string s] 23) _ (Nat.le_refl _)) hv0.2.2.2
  rw [World.size_alloc] at hv1
  have HW := Lib.hid (wrongValues_one k n s p c _ _ (by unfold maxLen; omega) hv1)
  have HE := Lib.hid (he.below hb1 (Nat.le_refl _)); clear he
  have HV := Lib.hid hv0'
  have HB1 := Lib.hid hb1
  have HI := Lib.hid (fun W => isOperator_any op W)
  clear hb0 hb1 hv0 hv1 hv0'
  unfold rgE
  by_cases hz : wvE k n s p c = 0
  · obtain ⟨z1, z2, z3, z4⟩ := wv_zero hz
    rw [hz, if_neg (by simp)]
    rw [hz] at HW
    by_cases ho : isO op = false
    · rw [if_pos ho]
      rw [ho] at HI
      clear z1 z2 z3 z4 hz ho
      go_enter Tryd.func38, Tryd.ntmps38
      go_wp2_with fail
      refine (HW.out).mono ?_
      rintro e w1 ⟨rfl, hb1⟩
      have HB2 := Lib.hid (HB1.out.trans (hb1.mono HB1.out.size)); clear hb1
      go_wp2_with fail
      refine (HI.out _).mono ?_
      rintro e w2 ⟨rfl, hb2⟩
      have HB3 := Lib.hid (HB2.out.trans (hb2.mono HB2.out.size)); clear hb2
      go_wp2_with fail
      exact bodyPost_ret (v := .tuple #[.string nos, .string nos, .bool false, .int .i64 1]) (by simp [results, Tryd.results38, go_sem]) rfl ⟨_, _, _, rfl, HB3.out, fun _ => ⟨rfl, rfl, rfl⟩⟩
    rw [if_neg ho]
    have ho' : isO op = true := by simpa using ho
    rw [ho'] at HI
    by_cases hk : k = 0
    · rw [if_pos hk]
      have hk' : ((k : Int) == 0) = true := by simpa using hk
      clear z1 z2 z3 z4 hz ho ho' hk
      go_enter Tryd.func38, Tryd.ntmps38
      go_wp2_with fail
      refine (HW.out).mono ?_
      rintro e w1 ⟨rfl, hb1⟩
      have HV1 := Lib.hid (HV.out.below hb1 HV.out.2.2.2)
      have HB2 := Lib.hid (HB1.out.trans (hb1.mono HB1.out.size)); clear hb1
      go_wp2_with fail
      refine (HI.out _).mono ?_
      rintro e w2 ⟨rfl, hb2⟩
      have HV2 := Lib.hid (HV1.out.below hb2 HV1.out.2.2.2)
      have HB3 := Lib.hid (HB2.out.trans (hb2.mono HB2.out.size)); clear hb2
      obtain ⟨c0, c1, c2, _⟩ := HV2.out
      go_wp2_with fail
      exact bodyPost_ret (v := .tuple #[.string nos, .string nos, .bool false, .int .i64 6]) (by simp [results, Tryd.results38, go_sem]) rfl ⟨_, _, _, rfl, HB3.out, fun _ => ⟨rfl, rfl, rfl⟩⟩
    rw [if_neg hk]
    have hk' : ((k : Int) == 0) = false := by simpa using hk
    obtain ⟨q, rfl⟩ : ∃ q : Nat, p = q := ⟨p.toNat, by omega⟩
    obtain ⟨b, rfl⟩ : ∃ b : Nat, c = b := ⟨c.toNat, by omega⟩
    have hkr : 0 ≤ k ∧ k ≤ 4 := by
      by_cases h4 : k = 4
      · omega
      · have := valid_num z1 h4; omega
    have hs2 : s.size ≤ 2048 := by
      unfold vE at z1
      by_cases h : 2048 < s.size
      · rw [if_pos h] at z1; cases z1
      · omega
    obtain ⟨u, rfl⟩ : ∃ u : Nat, k = u := ⟨k.toNat, by omega⟩
    have hub : u < 256 := by omega
    have HC := Lib.hid (fun W h => encode_any (u : Int) n s q b (by omega) (by omega) W h (by omega) z1)
    have HTM := Lib.hid (fun W h => trimmed_any s q b (by omega) (by omega) W h (by omega))
    have HEZ := enc_size (k := (u : Int)) (n := n) (s := s) q b
    have HCM : Hid (∀ W cut, Calls Tryd.prog 66 #[.string op, .string (encS (u : Int) n s q b), .bool cut] W (BRes W)) := Lib.hid fun W cut => (compared_any op (encS (u : Int) n s q b) cut W).mono fun e w' ⟨h1, h2⟩ => by
      have hcs := cmp_size op (encS (u : Int) n s q b) cut
      exact ⟨_, _, _, _, h1, by omega, by omega, h2⟩
    have HTM : Hid (∀ W, Env W → Calls Tryd.prog 65 #[.string s, .int .i64 q, .int .i64 b] W (BRes W)) := Lib.hid fun W h => (trimmed_any s q b (by omega) (by omega) W h (by omega)).mono fun e w' ⟨h1, h2⟩ => by
      have g1 := prS_size q b (trS s)
      have g2 := prS_size q b (padS s)
      have e0 : (⟨#[0, 0]⟩ : ByteArray).size = 2 := rfl
      exact ⟨_, _, _, _, h1, by rw [ByteArray.size_append, e0]; omega, by rw [ByteArray.size_append, e0]; omega, h2⟩
    have hcu : IntKind.u8.wrap (u : Int) = (u : Int) := by
      have h8 : ∀ m : Fin 256, IntKind.u8.wrap ((m.val : Nat) : Int) = ((m.val : Nat) : Int) := by decide
      exact h8 ⟨u, hub⟩
    generalize encS (u : Int) n s q b = x at *
    clear HEZ
    clear z1 z2 z3 z4 hz ho ho' hk
    go_enter Tryd.func38, Tryd.ntmps38
    go_wp2_with fail
    refine (HW.out).mono ?_
    rintro e w1 ⟨rfl, hb1⟩
    have HV1 := Lib.hid (HV.out.below hb1 HV.out.2.2.2)
    have HE1 := Lib.hid (HE.out.below hb1 (Nat.le_refl _))
    have HB2 := Lib.hid (HB1.out.trans (hb1.mono HB1.out.size)); clear hb1
    go_wp2_with fail
    refine (HI.out _).mono ?_
    rintro e w2 ⟨rfl, hb2⟩
    have HV2 := Lib.hid (HV1.out.below hb2 HV1.out.2.2.2)
    have HE2 := Lib.hid (HE1.out.below hb2 (Nat.le_refl _))
    have HB3 := Lib.hid (HB2.out.trans (hb2.mono HB2.out.size)); clear hb2
    obtain ⟨c0, c1, c2, cs⟩ := HV2.out
    have hlt : w.heap.size < w2.heap.size := cs
    have hne : ¬ (w.heap.size = w2.heap.size) := by omega
    have hne' : ¬ (w2.heap.size = w.heap.size) := by omega
    have hbc : (((b : Int) == 0) = true ∧ ((b : Int) != 0) = false) ∨ (((b : Int) == 0) = false ∧ ((b : Int) != 0) = true) := by
      by_cases hb : (b : Int) = 0
      · left; simp [hb]
      · right; have hb2 : b ≠ 0 := fun h => hb (by rw [h]; rfl); simp [hb2]
    have h48 : ((s.size : Int) < 48 ∧ ¬ (48 : Int) ≤ s.size) ∨ (¬ (s.size : Int) < 48 ∧ (48 : Int) ≤ s.size) := by omega
    have HW2 := Lib.hid (BW.new w2 96)
    have hbz : Below w2.heap.size w2 (w2.alloc (.cells #[.string nos, .string nos, .bool false, .bool false] 96)) := (Below.refl _ _).alloc (Nat.le_refl _) _
    have HV3 := Lib.hid (HV2.out.below hbz HV2.out.2.2.2)
    have HE3 := Lib.hid (HE2.out.below hbz (Nat.le_refl _))
    have HB4 := Lib.hid (HB3.out.trans (hbz.mono HB3.out.size)); clear hbz
    generalize hob : (op.toList == [61]) = ob at *
    generalize hoe : (op.toList == [61, 61]) = oe at *
    by_cases hk4 : u = 4
    · subst hk4
      cases ob
      · rcases hbc with ⟨hbc, hbn⟩ | ⟨hbc, hbn⟩
        · rcases h48 with ⟨h48, h48'⟩ | ⟨h48, h48'⟩
          all_goals
            go_wp2_with fail
            rw [show (⟨#[]⟩ : ByteArray) = nos from rfl]
            generalize w2.alloc (.cells #[.string nos, .string nos, .bool false, .bool false] 96) = w3 at *
            refine (HC.out _ HE3.out).mono ?_
            rintro e w4 ⟨rfl, hb4⟩
            have HV4 := Lib.hid (HV3.out.below hb4 HV3.out.2.2.2)
            have HW4 := Lib.hid (HW2.out.below hb4 HW2.out.2.2.2.2.2.2.2.2)
            have HB4' := Lib.hid (HB4.out.trans (hb4.mono HB4.out.size)); clear hb4
            clear c0 c1 c2 cs
            obtain ⟨c0, c1, c2, cs⟩ := HV4.out
            go_wp2_with fail
            refine (HCM.out _ _).mono ?_
            rintro e w5 ⟨lo, hi, a, b', rfl, hlo, hhi, hb5⟩
            have HV5 := Lib.hid (HV4.out.below hb5 HV4.out.2.2.2)
            have HW5 := Lib.hid (HW4.out.below hb5 HW4.out.2.2.2.2.2.2.2.2)
            have HB5 := Lib.hid (HB4'.out.trans (hb5.mono HB4'.out.size)); clear hb5
            have HK := Lib.hid (fun W => keys_any lo hi a b' 4 false W (by omega) hlo hhi)
            rw [show ((4 : Nat) : Int) = 4 from rfl] at HK
            generalize keysV lo hi a b' 4 false = kv at *
            obtain ⟨kl, kh⟩ := kv
            clear c0 c1 c2 cs
            obtain ⟨c0, c1, c2, cs⟩ := HV5.out
            obtain ⟨d0, d1, d2, d3, f0, f1, f2, f3, ds⟩ := HW5.out
            go_wp2_with fail
            refine (HK.out _).mono ?_
            rintro e w6 ⟨rfl, hb6⟩
            have HB6 : Hid (Below w.heap.size w w6) := Lib.hid (by
              refine Below.trans ?_ (hb6.mono ?_)
              · repeat (first | exact HB5.out | (refine Below.drew ?_) | (refine Below.setCell ?_ (by first | exact Nat.le_refl _ | (simp; done) | (simp; omega) | omega) _))
              · have := HB5.out.size; first | (simp; omega) | omega)
            have g2 : w6.cell? ⟨w.heap.size, 2, none⟩ = some (.string s) := (hb6.cell (p := ⟨w.heap.size, 2, none⟩) (by first | (simp; omega) | omega)).trans (by go_simp)
            go_wp2_with fail
            exact bodyPost_ret (v := .tuple #[.string kl, .string kh, .bool (decide ((s.size : Int) < 48)), .int .i64 0]) (by simp [results, Tryd.results38, go_sem, h48]) rfl ⟨_, _, _, rfl, HB6.out, fun h => absurd rfl h⟩
        · cases oe
          · rcases h48 with ⟨h48, h48'⟩ | ⟨h48, h48'⟩
            all_goals
              have HK := Lib.hid (fun W => keys_any nos nos false false 4 false W (by omega) (by decide) (by decide))
              rw [show ((4 : Nat) : Int) = 4 from rfl] at HK
              generalize keysV nos nos false false 4 false = kv at *
              obtain ⟨kl, kh⟩ := kv
              rw [show nos = (⟨#[]⟩ : ByteArray) from rfl] at HK
              go_wp2_with fail
              refine (HK.out _).mono ?_
              rintro e w6 ⟨rfl, hb6⟩
              have HB6 : Hid (Below w.heap.size w w6) := Lib.hid (by
                refine Below.trans ?_ (hb6.mono ?_)
                · repeat (first | exact HB4.out | (refine Below.drew ?_) | (refine Below.setCell ?_ (by first | exact Nat.le_refl _ | (simp; done) | (simp; omega) | omega) _))
                · have := HB4.out.size; first | (simp; omega) | omega)
              have g2 : w6.cell? ⟨w.heap.size, 2, none⟩ = some (.string s) := (hb6.cell (p := ⟨w.heap.size, 2, none⟩) (by first | (simp; omega) | omega)).trans (by go_simp)
              go_wp2_with fail
              exact bodyPost_ret (v := .tuple #[.string kl, .string kh, .bool false, .int .i64 0]) (by simp [results, Tryd.results38, go_sem]) rfl ⟨_, _, _, rfl, HB6.out, fun h => absurd rfl h⟩
          · rcases h48 with ⟨h48, h48'⟩ | ⟨h48, h48'⟩
            all_goals
              go_wp2_with fail
              rw [show (⟨#[]⟩ : ByteArray) = nos from rfl]
              generalize w2.alloc (.cells #[.string nos, .string nos, .bool false, .bool false] 96) = w3 at *
              refine (HC.out _ HE3.out).mono ?_
              rintro e w4 ⟨rfl, hb4⟩
              have HV4 := Lib.hid (HV3.out.below hb4 HV3.out.2.2.2)
              have HW4 := Lib.hid (HW2.out.below hb4 HW2.out.2.2.2.2.2.2.2.2)
              have HB4' := Lib.hid (HB4.out.trans (hb4.mono HB4.out.size)); clear hb4
              clear c0 c1 c2 cs
              obtain ⟨c0, c1, c2, cs⟩ := HV4.out
              go_wp2_with fail
              refine (HCM.out _ _).mono ?_
              rintro e w5 ⟨lo, hi, a, b', rfl, hlo, hhi, hb5⟩
              have HV5 := Lib.hid (HV4.out.below hb5 HV4.out.2.2.2)
              have HW5 := Lib.hid (HW4.out.below hb5 HW4.out.2.2.2.2.2.2.2.2)
              have HB5 := Lib.hid (HB4'.out.trans (hb5.mono HB4'.out.size)); clear hb5
              have HK := Lib.hid (fun W => keys_any lo hi a b' 4 false W (by omega) hlo hhi)
              rw [show ((4 : Nat) : Int) = 4 from rfl] at HK
              generalize keysV lo hi a b' 4 false = kv at *
              obtain ⟨kl, kh⟩ := kv
              clear c0 c1 c2 cs
              obtain ⟨c0, c1, c2, cs⟩ := HV5.out
              obtain ⟨d0, d1, d2, d3, f0, f1, f2, f3, ds⟩ := HW5.out
              go_wp2_with fail
              refine (HK.out _).mono ?_
              rintro e w6 ⟨rfl, hb6⟩
              have HB6 : Hid (Below w.heap.size w w6) := Lib.hid (by
                refine Below.trans ?_ (hb6.mono ?_)
                · repeat (first | exact HB5.out | (refine Below.drew ?_) | (refine Below.setCell ?_ (by first | exact Nat.le_refl _ | (simp; done) | (simp; omega) | omega) _))
                · have := HB5.out.size; first | (simp; omega) | omega)
              have g2 : w6.cell? ⟨w.heap.size, 2, none⟩ = some (.string s) := (hb6.cell (p := ⟨w.heap.size, 2, none⟩) (by first | (simp; omega) | omega)).trans (by go_simp)
              go_wp2_with fail
              exact bodyPost_ret (v := .tuple #[.string kl, .string kh, .bool false, .int .i64 0]) (by simp [results, Tryd.results38, go_sem]) rfl ⟨_, _, _, rfl, HB6.out, fun h => absurd rfl h⟩
      · rcases hbc with ⟨hbc, hbn⟩ | ⟨hbc, hbn⟩
        all_goals rcases h48 with ⟨h48, h48'⟩ | ⟨h48, h48'⟩
        all_goals
          go_wp2_with fail
          rw [show (⟨#[]⟩ : ByteArray) = nos from rfl]
          generalize w2.alloc (.cells #[.string nos, .string nos, .bool false, .bool false] 96) = w3 at *
          refine (HTM.out _ HE3.out).mono ?_
          rintro e w5 ⟨lo, hi, a, b', rfl, hlo, hhi, hb5⟩
          have HV5 := Lib.hid (HV3.out.below hb5 HV3.out.2.2.2)
          have HW5 := Lib.hid (HW2.out.below hb5 HW2.out.2.2.2.2.2.2.2.2)
          have HB5 := Lib.hid (HB4.out.trans (hb5.mono HB4.out.size)); clear hb5
          have HK := Lib.hid (fun W => keys_any lo hi a b' 4 false W (by omega) hlo hhi)
          rw [show ((4 : Nat) : Int) = 4 from rfl] at HK
          generalize keysV lo hi a b' 4 false = kv at *
          obtain ⟨kl, kh⟩ := kv
          clear c0 c1 c2 cs
          obtain ⟨c0, c1, c2, cs⟩ := HV5.out
          obtain ⟨d0, d1, d2, d3, f0, f1, f2, f3, ds⟩ := HW5.out
          go_wp2_with fail
          refine (HK.out _).mono ?_
          rintro e w6 ⟨rfl, hb6⟩
          have HB6 : Hid (Below w.heap.size w w6) := Lib.hid (by
            refine Below.trans ?_ (hb6.mono ?_)
            · repeat (first | exact HB5.out | (refine Below.drew ?_) | (refine Below.setCell ?_ (by first | exact Nat.le_refl _ | (simp; done) | (simp; omega) | omega) _))
            · have := HB5.out.size; first | (simp; omega) | omega)
          have g2 : w6.cell? ⟨w.heap.size, 2, none⟩ = some (.string s) := (hb6.cell (p := ⟨w.heap.size, 2, none⟩) (by first | (simp; omega) | omega)).trans (by go_simp)
          go_wp2_with fail
          exact bodyPost_ret (v := .tuple #[.string kl, .string kh, .bool false, .int .i64 0]) (by simp [results, Tryd.results38, go_sem]) rfl ⟨_, _, _, rfl, HB6.out, fun h => absurd rfl h⟩
    · have hk4' : ((u : Int) == 4) = false := by rw [beq_eq_false_iff_ne]; omega
      cases ob
      all_goals rcases hbc with ⟨hbc, hbn⟩ | ⟨hbc, hbn⟩
      all_goals
        go_wp2_with fail
        rw [show (⟨#[]⟩ : ByteArray) = nos from rfl]
        generalize w2.alloc (.cells #[.string nos, .string nos, .bool false, .bool false] 96) = w3 at *
        refine (HC.out _ HE3.out).mono ?_
        rintro e w4 ⟨rfl, hb4⟩
        have HV4 := Lib.hid (HV3.out.below hb4 HV3.out.2.2.2)
        have HW4 := Lib.hid (HW2.out.below hb4 HW2.out.2.2.2.2.2.2.2.2)
        have HB4' := Lib.hid (HB4.out.trans (hb4.mono HB4.out.size)); clear hb4
        clear c0 c1 c2 cs
        obtain ⟨c0, c1, c2, cs⟩ := HV4.out
        go_wp2_with fail
        refine (HCM.out _ _).mono ?_
        rintro e w5 ⟨lo, hi, a, b', rfl, hlo, hhi, hb5⟩
        have HV5 := Lib.hid (HV4.out.below hb5 HV4.out.2.2.2)
        have HW5 := Lib.hid (HW4.out.below hb5 HW4.out.2.2.2.2.2.2.2.2)
        have HB5 := Lib.hid (HB4'.out.trans (hb5.mono HB4'.out.size)); clear hb5
        have HK := Lib.hid (fun W => keys_any lo hi a b' u false W (by omega) hlo hhi)
        generalize keysV lo hi a b' u false = kv at *
        obtain ⟨kl, kh⟩ := kv
        clear c0 c1 c2 cs
        obtain ⟨c0, c1, c2, cs⟩ := HV5.out
        obtain ⟨d0, d1, d2, d3, f0, f1, f2, f3, ds⟩ := HW5.out
        go_wp2_with fail
        refine (HK.out _).mono ?_
        rintro e w6 ⟨rfl, hb6⟩
        have HB6 : Hid (Below w.heap.size w w6) := Lib.hid (by
          refine Below.trans ?_ (hb6.mono ?_)
          · repeat (first | exact HB5.out | (refine Below.drew ?_) | (refine Below.setCell ?_ (by first | exact Nat.le_refl _ | (simp; done) | (simp; omega) | omega) _))
          · have := HB5.out.size; first | (simp; omega) | omega)
        have g2 : w6.cell? ⟨w.heap.size, 2, none⟩ = some (.string s) := (hb6.cell (p := ⟨w.heap.size, 2, none⟩) (by first | (simp; omega) | omega)).trans (by go_simp)
        go_wp2_with fail
        exact bodyPost_ret (v := .tuple #[.string kl, .string kh, .bool ((b : Int) == 0), .int .i64 0]) (by simp [results, Tryd.results38, go_sem, hbc]) rfl ⟨_, _, _, rfl, HB6.out, fun h => absurd rfl h⟩
  · rw [if_pos hz]
    generalize wvE k n s p c = r at *
    have dn : (r != 0) = true := by simpa using hz
    clear hz
    go_enter Tryd.func38, Tryd.ntmps38
    go_wp2_with fail
    refine (HW.out).mono ?_
    rintro e w1 ⟨rfl, hb1⟩
    have HB2 := Lib.hid (HB1.out.trans (hb1.mono HB1.out.size)); clear hb1
    go_wp2_with fail
    exact bodyPost_ret (v := .tuple #[.string nos, .string nos, .bool false, .int .i64 r]) (by simp [results, Tryd.results38, go_sem]) rfl ⟨_, _, _, rfl, HB2.out, fun _ => ⟨rfl, rfl, rfl⟩⟩
end Go.Proofs.YtiddnacmopfamaaDoor
