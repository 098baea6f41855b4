/- Range of the program: its values. -/
import Derived.Test.YtiddnacmopfamaaDoorKyRd
namespace Go.Proofs.YtiddnacmopfamaaDoor
open Go.RowKit
set_option linter.unusedVariables false
set_option linter.unusedSimpArgs false
set_option maxRecDepth 40000
def eqO (op : ByteArray) : Bool := op.toList == [61]
def eeO (op : ByteArray) : Bool := op.toList == [61, 61]
/-- The bounds of a comparison, both for keys that ascend. -/
def rgB (op : ByteArray) (k n : Int) (s : ByteArray) (p c : Nat) : ByteArray × ByteArray × Bool × Bool :=
  if eqO op = true ∧ k = 4 then (prS p c (trS s) ++ ⟨#[0, 0]⟩, prS p c (padS s) ++ ⟨#[0, 0]⟩, true, true)
  else if k = 4 ∧ c ≠ 0 ∧ eeO op = false then (nos, nos, false, false)
  else cmpV op (encS k n s p c) (decide (k = 4 ∧ 48 ≤ s.size))
def rgS (op : ByteArray) (k : Int) (s : ByteArray) (c : Nat) : Bool := decide (c = 0 ∧ (k ≠ 4 ∨ s.size < 48 ∧ eqO op = false))
def rgV (op : ByteArray) (k n : Int) (s : ByteArray) (p c : Nat) (x d : Bool) : ByteArray × ByteArray × Bool :=
  if eqO op = true ∧ k = 4 ∧ x = false then (turnS d (prS p c s), oT (behO (turnS d (prS p c s)).data.toList), decide (c = 0 ∧ s.size < 48))
  else ((keysV (rgB op k n s p c).1 (rgB op k n s p c).2.1 (rgB op k n s p c).2.2.1 (rgB op k n s p c).2.2.2 k.toNat d).1, (keysV (rgB op k n s p c).1 (rgB op k n s p c).2.1 (rgB op k n s p c).2.2.1 (rgB op k n s p c).2.2.2 k.toNat d).2, rgS op k s c)
def RgV (w : World) (v : ByteArray × ByteArray × Bool) (e : Ending) (w' : World) : Prop := e = .returned (.tuple #[.string v.1, .string v.2.1, .bool v.2.2, .int .i64 0]) ∧ Below w.heap.size w w'
theorem RgV.of {w w' : World} {v : ByteArray × ByteArray × Bool} {lo hi : ByteArray} {b : Bool} (h : v = (lo, hi, b)) (hb : Below w.heap.size w w') : RgV w v (.returned (.tuple #[.string lo, .string hi, .bool b, .int .i64 0])) w' := by
  subst h; exact ⟨rfl, hb⟩

set_option maxHeartbeats 32000000 in
theorem Range_val (op : ByteArray) (k n : Int) (s : ByteArray) (x d : Bool) (q b : Nat) (w : World) (he : Env w) (hs : s.size ≤ 40000) (hq : q < 3) (hb2 : b < 2) (hv : vE k n s = 0) (hk : k ≠ 0) (ho : isO op = true) :
    Calls Tryd.prog 38 #[.string op, vv k n s, .bool x, .int .i64 q, .int .i64 b, .bool d] w (RgV w (rgV op k n s q b x d)) := by
  have hb0 : Below w.heap.size w (w.alloc (.cells #[.int .i64 k, .int .i64 n, .string s] 23)) := (Below.refl _ _).alloc (Nat.le_refl _) _
  have hb1 : Below w.heap.size w ((w.alloc (.cells #[.int .i64 k, .int .i64 n, .string s] 23)).alloc (.cells #[.int .i64 k, .int .i64 n, .string s] 23)) := hb0.alloc (by simp) _
  have hv0 := VCell.new w k n s 23
  have hv1 := VCell.new (w.alloc (.cells #[.int .i64 k, .int .i64 n, .string s] 23)) k n s 23
  have hv0' := hv0.below (Below.of_alloc (w.alloc (.cells #[.int .i64 k, .int .i64 n, .string s] 23)) (.cells #[.int .i64 k, .int .i64 n, .string s] 23) _ (Nat.le_refl _)) hv0.2.2.2
  rw [World.size_alloc] at hv1
  have hz : wvE k n s q b = 0 := by
    unfold wvE
    rw [if_pos hv]
    unfold wpE
    rw [if_pos (by omega)]
  have HW := Lib.hid (wrongValues_one k n s q b _ _ (by unfold maxLen; omega) hv1)
  rw [hz] at HW
  have HE := Lib.hid (he.below hb1 (Nat.le_refl _)); clear he
  have HV := Lib.hid hv0'
  have HB1 := Lib.hid hb1
  have HI := Lib.hid (fun W => isOperator_any op W)
  rw [ho] at HI
  clear hb0 hb1 hv0 hv1 hv0'
  have hk' : ((k : Int) == 0) = false := by simpa using hk
  have z1 := hv
  have hkr : 0 ≤ k ∧ k ≤ 4 := by
    by_cases h4 : k = 4
    · omega
    · have := valid_num z1 h4; omega
  have hs2 : s.size ≤ 2048 := by
    unfold vE at z1
    by_cases h : 2048 < s.size
    · rw [if_pos h] at z1; cases z1
    · omega
  obtain ⟨u, rfl⟩ : ∃ u : Nat, k = u := ⟨k.toNat, by omega⟩
  have hub : u < 256 := by omega
  have HC := Lib.hid (fun W h => encode_any (u : Int) n s q b hq hb2 W h (by omega) z1)
  have HTM := Lib.hid (fun W h => trimmed_any s q b hq hb2 W h (by omega))
  have HPX := Lib.hid (fun W h => prefix_any s q b hq hb2 W h (by omega))
  have hpz := prS_size q b s
  have HTU := Lib.hid (fun W => turned_any (prS q b s) d W (by omega))
  have htz := turnS_size d (prS q b s)
  have HBH := Lib.hid (fun W => Behind_any (turnS d (prS q b s)) W (by omega))
  have HEZ := enc_size (k := (u : Int)) (n := n) (s := s) q b
  have HCM := Lib.hid (fun W cut => compared_any op (encS (u : Int) n s q b) cut W)
  have HCZ := Lib.hid (fun cut => cmp_size op (encS (u : Int) n s q b) cut)
  have hcu : IntKind.u8.wrap (u : Int) = (u : Int) := by
    have h8 : ∀ m : Fin 256, IntKind.u8.wrap ((m.val : Nat) : Int) = ((m.val : Nat) : Int) := by decide
    exact h8 ⟨u, hub⟩
  have HZT : Hid ((prS q b (trS s) ++ (⟨#[0, 0]⟩ : ByteArray)).size ≤ 1000 ∧ (prS q b (padS s) ++ (⟨#[0, 0]⟩ : ByteArray)).size ≤ 1000) := Lib.hid (by
    have g1 := prS_size q b (trS s)
    have g2 := prS_size q b (padS s)
    have e0 : (⟨#[0, 0]⟩ : ByteArray).size = 2 := rfl
    rw [ByteArray.size_append, ByteArray.size_append, e0]
    omega)
  have HRV : Hid (rgV op (u : Int) n s q b x d = if eqO op = true ∧ (u : Int) = 4 ∧ x = false then (turnS d (prS q b s), oT (behO (turnS d (prS q b s)).data.toList), decide (b = 0 ∧ s.size < 48))
    else ((keysV (rgB op u n s q b).1 (rgB op u n s q b).2.1 (rgB op u n s q b).2.2.1 (rgB op u n s q b).2.2.2 u d).1, (keysV (rgB op u n s q b).1 (rgB op u n s q b).2.1 (rgB op u n s q b).2.2.1 (rgB op u n s q b).2.2.2 u d).2, rgS op u s b)) := Lib.hid rfl
  have HRB : Hid (rgB op (u : Int) n s q b = if eqO op = true ∧ (u : Int) = 4 then (prS q b (trS s) ++ ⟨#[0, 0]⟩, prS q b (padS s) ++ ⟨#[0, 0]⟩, true, true) else if (u : Int) = 4 ∧ b ≠ 0 ∧ eeO op = false then (nos, nos, false, false)
    else cmpV op (encS (u : Int) n s q b) (decide ((u : Int) = 4 ∧ 48 ≤ s.size))) := Lib.hid rfl
  have HRS : Hid (rgS op (u : Int) s b = decide (b = 0 ∧ ((u : Int) ≠ 4 ∨ s.size < 48 ∧ eqO op = false))) := Lib.hid rfl
  have HKY : Hid (∀ lo hi a' b', lo.size ≤ 1000 → hi.size ≤ 1000 → ∀ W, Calls Tryd.prog 67 #[bv lo hi a' b', .int .u8 u, .bool d] W fun e w' => e = .returned (.tuple #[.string (keysV lo hi a' b' u d).1, .string (keysV lo hi a' b' u d).2]) ∧ Below W.heap.size W w') := Lib.hid (fun lo hi a' b' h1 h2 W => keys_any lo hi a' b' u d W (by omega) h1 h2)
  generalize rgV op (u : Int) n s q b x d = V at *
  generalize rgB op (u : Int) n s q b = BB at *
  generalize rgS op (u : Int) s b = SS at *
  generalize prS q b (trS s) ++ (⟨#[0, 0]⟩ : ByteArray) = tl at *
  generalize prS q b (padS s) ++ (⟨#[0, 0]⟩ : ByteArray) = th at *
  generalize encS (u : Int) n s q b = ek at *
  generalize turnS d (prS q b s) = tp at *
  generalize prS q b s = ps at *
  clear hpz htz z1 hv hk ho hz
  have hbc : (((b : Int) == 0) = true ∧ ((b : Int) != 0) = false ∧ b = 0) ∨ (((b : Int) == 0) = false ∧ ((b : Int) != 0) = true ∧ b ≠ 0) := by
    by_cases hb : (b : Int) = 0
    · left; exact ⟨by simp [hb], by simp [hb], by omega⟩
    · right; have hb2 : b ≠ 0 := fun h => hb (by rw [h]; rfl); simp [hb2]
  have h48 : ((s.size : Int) < 48 ∧ ¬ (48 : Int) ≤ s.size ∧ s.size < 48) ∨ (¬ (s.size : Int) < 48 ∧ (48 : Int) ≤ s.size ∧ ¬ s.size < 48) := by omega
  have hob : eqO op = (op.toList == [61]) := rfl
  have hoe : eeO op = (op.toList == [61, 61]) := rfl
  rw [hob] at HRV HRB HRS
  rw [hoe] at HRB
  clear hob hoe
  generalize hob : (op.toList == [61]) = ob at *
  generalize hoe : (op.toList == [61, 61]) = oe at *
  by_cases hk4 : u = 4
  · subst hk4
    have hc4 : ((4 : Nat) : Int) = 4 := rfl
    rw [hc4] at HKY
    clear hc4
    cases ob
    · rcases hbc with ⟨hbc, hbn, hbz0⟩ | ⟨hbc, hbn, hbz0⟩
      · rcases h48 with ⟨h48, h48', h48n⟩ | ⟨h48, h48', h48n⟩
        · have HBZ0 := Lib.hid hbz0; clear hbz0
          have H48N := Lib.hid h48n; clear h48n

          go_enter Tryd.func38, Tryd.ntmps38
          go_wp2_with fail
          refine (HW.out).mono ?_
          rintro e w1 ⟨rfl, hb1⟩
          have HV1 := Lib.hid (HV.out.below hb1 HV.out.2.2.2)
          have HE1 := Lib.hid (HE.out.below hb1 (Nat.le_refl _))
          have HB2 := Lib.hid (HB1.out.trans (hb1.mono HB1.out.size)); clear hb1
          go_wp2_with fail
          refine (HI.out _).mono ?_
          rintro e w2 ⟨rfl, hb2⟩
          have HV2 := Lib.hid (HV1.out.below hb2 HV1.out.2.2.2)
          have HE2 := Lib.hid (HE1.out.below hb2 (Nat.le_refl _))
          have HB3 := Lib.hid (HB2.out.trans (hb2.mono HB2.out.size)); clear hb2
          obtain ⟨c0, c1, c2, cs⟩ := HV2.out
          have hlt : w.heap.size < w2.heap.size := cs
          have hne : ¬ (w.heap.size = w2.heap.size) := by omega
          have hne' : ¬ (w2.heap.size = w.heap.size) := by omega
          have HW2 := Lib.hid (BW.new w2 96)
          have hbz : Below w2.heap.size w2 (w2.alloc (.cells #[.string nos, .string nos, .bool false, .bool false] 96)) := (Below.refl _ _).alloc (Nat.le_refl _) _
          have HV3 := Lib.hid (HV2.out.below hbz HV2.out.2.2.2)
          have HE3 := Lib.hid (HE2.out.below hbz (Nat.le_refl _))
          have HB4 := Lib.hid (HB3.out.trans (hbz.mono HB3.out.size)); clear hbz
          go_wp2_with fail

          rw [show (⟨#[]⟩ : ByteArray) = nos from rfl]
          generalize w2.alloc (.cells #[.string nos, .string nos, .bool false, .bool false] 96) = w3 at *

          refine (HC.out _ HE3.out).mono ?_
          rintro e w4 ⟨rfl, hb4⟩
          have HV4 := Lib.hid (HV3.out.below hb4 HV3.out.2.2.2)
          have HW4 := Lib.hid (HW2.out.below hb4 HW2.out.2.2.2.2.2.2.2.2)
          have HB4' := Lib.hid (HB4.out.trans (hb4.mono HB4.out.size)); clear hb4
          clear c0 c1 c2 cs
          obtain ⟨c0, c1, c2, cs⟩ := HV4.out
          have HCM1 := Lib.hid (fun W => HCM.out W (decide ((48 : Int) ≤ s.size)))
          have HCZ1 := Lib.hid (HCZ.out (decide ((48 : Int) ≤ s.size)))
          have HK := Lib.hid (HKY.out (cmpV op ek (decide ((48 : Int) ≤ s.size))).1 (cmpV op ek (decide ((48 : Int) ≤ s.size))).2.1 (cmpV op ek (decide ((48 : Int) ≤ s.size))).2.2.1 (cmpV op ek (decide ((48 : Int) ≤ s.size))).2.2.2 (by have := HCZ1.out.1; omega) (by have := HCZ1.out.2; omega))

          generalize hkv : keysV (cmpV op ek (decide ((48 : Int) ≤ s.size))).1 (cmpV op ek (decide ((48 : Int) ≤ s.size))).2.1 (cmpV op ek (decide ((48 : Int) ≤ s.size))).2.2.1 (cmpV op ek (decide ((48 : Int) ≤ s.size))).2.2.2 4 d = kv at *
          obtain ⟨kl, kh⟩ := kv
          have HFIN : Hid (V = (kl, kh, true)) := Lib.hid (by rw [HRV.out, if_neg (by simp), HRB.out, if_neg (by simp), if_neg (by have := HBZ0.out; simp [this]), show decide (((4 : Nat) : Int) = 4 ∧ 48 ≤ s.size) = (decide ((48 : Int) ≤ s.size)) by rw [decide_eq_decide]; omega, hkv, HRS.out]; exact congrArg (fun z => (kl, kh, z)) (by have := H48N.out; simp [HBZ0.out]; omega))
          clear hkv
          generalize (cmpV op ek (decide ((48 : Int) ≤ s.size))).1 = lo at *
          generalize (cmpV op ek (decide ((48 : Int) ≤ s.size))).2.1 = hi at *
          generalize (cmpV op ek (decide ((48 : Int) ≤ s.size))).2.2.1 = a' at *
          generalize (cmpV op ek (decide ((48 : Int) ≤ s.size))).2.2.2 = b' at *
          go_wp2_with fail
          refine (HCM1.out _).mono ?_
          rintro e w5 ⟨rfl, hb5⟩
          have HV5 := Lib.hid (HV4.out.below hb5 HV4.out.2.2.2)
          have HW5 := Lib.hid (HW4.out.below hb5 HW4.out.2.2.2.2.2.2.2.2)
          have HB5 := Lib.hid (HB4'.out.trans (hb5.mono HB4'.out.size)); clear hb5

          clear c0 c1 c2 cs
          obtain ⟨c0, c1, c2, cs⟩ := HV5.out
          obtain ⟨d0, d1, d2, d3, f0, f1, f2, f3, ds⟩ := HW5.out
          go_wp2_with fail
          refine (HK.out _).mono ?_
          rintro e w6 ⟨rfl, hb6⟩
          have HB6 : Hid (Below w.heap.size w w6) := Lib.hid (by
            refine Below.trans ?_ (hb6.mono ?_)
            · repeat (first | exact HB5.out | (refine Below.drew ?_) | (refine Below.setCell ?_ (by first | exact Nat.le_refl _ | (simp; done) | (simp; omega) | omega) _))
            · have := HB5.out.size; first | (simp; omega) | omega)
          have g2 : w6.cell? ⟨w.heap.size, 2, none⟩ = some (.string s) := (hb6.cell (p := ⟨w.heap.size, 2, none⟩) (by first | (simp; omega) | omega)).trans (by go_simp)
          go_wp2_with fail
          exact bodyPost_ret (v := .tuple #[.string kl, .string kh, .bool true, .int .i64 0]) (by simp [results, Tryd.results38, go_sem, h48]) rfl (RgV.of HFIN.out HB6.out)
        · have HBZ0 := Lib.hid hbz0; clear hbz0
          have H48N := Lib.hid h48n; clear h48n

          go_enter Tryd.func38, Tryd.ntmps38
          go_wp2_with fail
          refine (HW.out).mono ?_
          rintro e w1 ⟨rfl, hb1⟩
          have HV1 := Lib.hid (HV.out.below hb1 HV.out.2.2.2)
          have HE1 := Lib.hid (HE.out.below hb1 (Nat.le_refl _))
          have HB2 := Lib.hid (HB1.out.trans (hb1.mono HB1.out.size)); clear hb1
          go_wp2_with fail
          refine (HI.out _).mono ?_
          rintro e w2 ⟨rfl, hb2⟩
          have HV2 := Lib.hid (HV1.out.below hb2 HV1.out.2.2.2)
          have HE2 := Lib.hid (HE1.out.below hb2 (Nat.le_refl _))
          have HB3 := Lib.hid (HB2.out.trans (hb2.mono HB2.out.size)); clear hb2
          obtain ⟨c0, c1, c2, cs⟩ := HV2.out
          have hlt : w.heap.size < w2.heap.size := cs
          have hne : ¬ (w.heap.size = w2.heap.size) := by omega
          have hne' : ¬ (w2.heap.size = w.heap.size) := by omega
          have HW2 := Lib.hid (BW.new w2 96)
          have hbz : Below w2.heap.size w2 (w2.alloc (.cells #[.string nos, .string nos, .bool false, .bool false] 96)) := (Below.refl _ _).alloc (Nat.le_refl _) _
          have HV3 := Lib.hid (HV2.out.below hbz HV2.out.2.2.2)
          have HE3 := Lib.hid (HE2.out.below hbz (Nat.le_refl _))
          have HB4 := Lib.hid (HB3.out.trans (hbz.mono HB3.out.size)); clear hbz
          go_wp2_with fail

          rw [show (⟨#[]⟩ : ByteArray) = nos from rfl]
          generalize w2.alloc (.cells #[.string nos, .string nos, .bool false, .bool false] 96) = w3 at *

          refine (HC.out _ HE3.out).mono ?_
          rintro e w4 ⟨rfl, hb4⟩
          have HV4 := Lib.hid (HV3.out.below hb4 HV3.out.2.2.2)
          have HW4 := Lib.hid (HW2.out.below hb4 HW2.out.2.2.2.2.2.2.2.2)
          have HB4' := Lib.hid (HB4.out.trans (hb4.mono HB4.out.size)); clear hb4
          clear c0 c1 c2 cs
          obtain ⟨c0, c1, c2, cs⟩ := HV4.out
          have HCM1 := Lib.hid (fun W => HCM.out W true)
          have HCZ1 := Lib.hid (HCZ.out true)
          have HK := Lib.hid (HKY.out (cmpV op ek true).1 (cmpV op ek true).2.1 (cmpV op ek true).2.2.1 (cmpV op ek true).2.2.2 (by have := HCZ1.out.1; omega) (by have := HCZ1.out.2; omega))

          generalize hkv : keysV (cmpV op ek true).1 (cmpV op ek true).2.1 (cmpV op ek true).2.2.1 (cmpV op ek true).2.2.2 4 d = kv at *
          obtain ⟨kl, kh⟩ := kv
          have HFIN : Hid (V = (kl, kh, false)) := Lib.hid (by rw [HRV.out, if_neg (by simp), HRB.out, if_neg (by simp), if_neg (by have := HBZ0.out; simp [this]), show decide (((4 : Nat) : Int) = 4 ∧ 48 ≤ s.size) = true by have := H48N.out; simp; omega, hkv, HRS.out]; exact congrArg (fun z => (kl, kh, z)) (by have := H48N.out; simp [HBZ0.out]; omega))
          clear hkv
          generalize (cmpV op ek true).1 = lo at *
          generalize (cmpV op ek true).2.1 = hi at *
          generalize (cmpV op ek true).2.2.1 = a' at *
          generalize (cmpV op ek true).2.2.2 = b' at *
          go_wp2_with fail
          refine (HCM1.out _).mono ?_
          rintro e w5 ⟨rfl, hb5⟩
          have HV5 := Lib.hid (HV4.out.below hb5 HV4.out.2.2.2)
          have HW5 := Lib.hid (HW4.out.below hb5 HW4.out.2.2.2.2.2.2.2.2)
          have HB5 := Lib.hid (HB4'.out.trans (hb5.mono HB4'.out.size)); clear hb5

          clear c0 c1 c2 cs
          obtain ⟨c0, c1, c2, cs⟩ := HV5.out
          obtain ⟨d0, d1, d2, d3, f0, f1, f2, f3, ds⟩ := HW5.out
          go_wp2_with fail
          refine (HK.out _).mono ?_
          rintro e w6 ⟨rfl, hb6⟩
          have HB6 : Hid (Below w.heap.size w w6) := Lib.hid (by
            refine Below.trans ?_ (hb6.mono ?_)
            · repeat (first | exact HB5.out | (refine Below.drew ?_) | (refine Below.setCell ?_ (by first | exact Nat.le_refl _ | (simp; done) | (simp; omega) | omega) _))
            · have := HB5.out.size; first | (simp; omega) | omega)
          have g2 : w6.cell? ⟨w.heap.size, 2, none⟩ = some (.string s) := (hb6.cell (p := ⟨w.heap.size, 2, none⟩) (by first | (simp; omega) | omega)).trans (by go_simp)
          go_wp2_with fail
          exact bodyPost_ret (v := .tuple #[.string kl, .string kh, .bool false, .int .i64 0]) (by simp [results, Tryd.results38, go_sem, h48]) rfl (RgV.of HFIN.out HB6.out)
      · cases oe
        · rcases h48 with ⟨h48, h48', h48n⟩ | ⟨h48, h48', h48n⟩
          · have HBZ0 := Lib.hid hbz0; clear hbz0
            have H48N := Lib.hid h48n; clear h48n
            have HK := Lib.hid (HKY.out nos nos false false (by decide) (by decide))
            generalize hkv : keysV nos nos false false 4 d = kv at *
            obtain ⟨kl, kh⟩ := kv
            have HFIN : Hid (V = (kl, kh, false)) := Lib.hid (by rw [HRV.out, if_neg (by simp), HRB.out, if_neg (by simp), if_pos (by have := HBZ0.out; simp [this]), hkv, HRS.out]; exact congrArg (fun z => (kl, kh, z)) (by have := HBZ0.out; simp [this]))
            clear hkv
            rw [show nos = (⟨#[]⟩ : ByteArray) from rfl] at HK

            go_enter Tryd.func38, Tryd.ntmps38
            go_wp2_with fail
            refine (HW.out).mono ?_
            rintro e w1 ⟨rfl, hb1⟩
            have HV1 := Lib.hid (HV.out.below hb1 HV.out.2.2.2)
            have HE1 := Lib.hid (HE.out.below hb1 (Nat.le_refl _))
            have HB2 := Lib.hid (HB1.out.trans (hb1.mono HB1.out.size)); clear hb1
            go_wp2_with fail
            refine (HI.out _).mono ?_
            rintro e w2 ⟨rfl, hb2⟩
            have HV2 := Lib.hid (HV1.out.below hb2 HV1.out.2.2.2)
            have HE2 := Lib.hid (HE1.out.below hb2 (Nat.le_refl _))
            have HB3 := Lib.hid (HB2.out.trans (hb2.mono HB2.out.size)); clear hb2
            obtain ⟨c0, c1, c2, cs⟩ := HV2.out
            have hlt : w.heap.size < w2.heap.size := cs
            have hne : ¬ (w.heap.size = w2.heap.size) := by omega
            have hne' : ¬ (w2.heap.size = w.heap.size) := by omega
            have HW2 := Lib.hid (BW.new w2 96)
            have hbz : Below w2.heap.size w2 (w2.alloc (.cells #[.string nos, .string nos, .bool false, .bool false] 96)) := (Below.refl _ _).alloc (Nat.le_refl _) _
            have HV3 := Lib.hid (HV2.out.below hbz HV2.out.2.2.2)
            have HE3 := Lib.hid (HE2.out.below hbz (Nat.le_refl _))
            have HB4 := Lib.hid (HB3.out.trans (hbz.mono HB3.out.size)); clear hbz
            go_wp2_with fail

            refine (HK.out _).mono ?_
            rintro e w6 ⟨rfl, hb6⟩
            have HB6 : Hid (Below w.heap.size w w6) := Lib.hid (by
              refine Below.trans ?_ (hb6.mono ?_)
              · repeat (first | exact HB4.out | (refine Below.drew ?_) | (refine Below.setCell ?_ (by first | exact Nat.le_refl _ | (simp; done) | (simp; omega) | omega) _))
              · have := HB4.out.size; first | (simp; omega) | omega)
            have g2 : w6.cell? ⟨w.heap.size, 2, none⟩ = some (.string s) := (hb6.cell (p := ⟨w.heap.size, 2, none⟩) (by first | (simp; omega) | omega)).trans (by go_simp)
            go_wp2_with fail
            exact bodyPost_ret (v := .tuple #[.string kl, .string kh, .bool false, .int .i64 0]) (by simp [results, Tryd.results38, go_sem]) rfl (RgV.of HFIN.out HB6.out)
          · have HBZ0 := Lib.hid hbz0; clear hbz0
            have H48N := Lib.hid h48n; clear h48n
            have HK := Lib.hid (HKY.out nos nos false false (by decide) (by decide))
            generalize hkv : keysV nos nos false false 4 d = kv at *
            obtain ⟨kl, kh⟩ := kv
            have HFIN : Hid (V = (kl, kh, false)) := Lib.hid (by rw [HRV.out, if_neg (by simp), HRB.out, if_neg (by simp), if_pos (by have := HBZ0.out; simp [this]), hkv, HRS.out]; exact congrArg (fun z => (kl, kh, z)) (by have := HBZ0.out; simp [this]))
            clear hkv
            rw [show nos = (⟨#[]⟩ : ByteArray) from rfl] at HK

            go_enter Tryd.func38, Tryd.ntmps38
            go_wp2_with fail
            refine (HW.out).mono ?_
            rintro e w1 ⟨rfl, hb1⟩
            have HV1 := Lib.hid (HV.out.below hb1 HV.out.2.2.2)
            have HE1 := Lib.hid (HE.out.below hb1 (Nat.le_refl _))
            have HB2 := Lib.hid (HB1.out.trans (hb1.mono HB1.out.size)); clear hb1
            go_wp2_with fail
            refine (HI.out _).mono ?_
            rintro e w2 ⟨rfl, hb2⟩
            have HV2 := Lib.hid (HV1.out.below hb2 HV1.out.2.2.2)
            have HE2 := Lib.hid (HE1.out.below hb2 (Nat.le_refl _))
            have HB3 := Lib.hid (HB2.out.trans (hb2.mono HB2.out.size)); clear hb2
            obtain ⟨c0, c1, c2, cs⟩ := HV2.out
            have hlt : w.heap.size < w2.heap.size := cs
            have hne : ¬ (w.heap.size = w2.heap.size) := by omega
            have hne' : ¬ (w2.heap.size = w.heap.size) := by omega
            have HW2 := Lib.hid (BW.new w2 96)
            have hbz : Below w2.heap.size w2 (w2.alloc (.cells #[.string nos, .string nos, .bool false, .bool false] 96)) := (Below.refl _ _).alloc (Nat.le_refl _) _
            have HV3 := Lib.hid (HV2.out.below hbz HV2.out.2.2.2)
            have HE3 := Lib.hid (HE2.out.below hbz (Nat.le_refl _))
            have HB4 := Lib.hid (HB3.out.trans (hbz.mono HB3.out.size)); clear hbz
            go_wp2_with fail

            refine (HK.out _).mono ?_
            rintro e w6 ⟨rfl, hb6⟩
            have HB6 : Hid (Below w.heap.size w w6) := Lib.hid (by
              refine Below.trans ?_ (hb6.mono ?_)
              · repeat (first | exact HB4.out | (refine Below.drew ?_) | (refine Below.setCell ?_ (by first | exact Nat.le_refl _ | (simp; done) | (simp; omega) | omega) _))
              · have := HB4.out.size; first | (simp; omega) | omega)
            have g2 : w6.cell? ⟨w.heap.size, 2, none⟩ = some (.string s) := (hb6.cell (p := ⟨w.heap.size, 2, none⟩) (by first | (simp; omega) | omega)).trans (by go_simp)
            go_wp2_with fail
            exact bodyPost_ret (v := .tuple #[.string kl, .string kh, .bool false, .int .i64 0]) (by simp [results, Tryd.results38, go_sem]) rfl (RgV.of HFIN.out HB6.out)
        · rcases h48 with ⟨h48, h48', h48n⟩ | ⟨h48, h48', h48n⟩
          · have HBZ0 := Lib.hid hbz0; clear hbz0
            have H48N := Lib.hid h48n; clear h48n

            go_enter Tryd.func38, Tryd.ntmps38
            go_wp2_with fail
            refine (HW.out).mono ?_
            rintro e w1 ⟨rfl, hb1⟩
            have HV1 := Lib.hid (HV.out.below hb1 HV.out.2.2.2)
            have HE1 := Lib.hid (HE.out.below hb1 (Nat.le_refl _))
            have HB2 := Lib.hid (HB1.out.trans (hb1.mono HB1.out.size)); clear hb1
            go_wp2_with fail
            refine (HI.out _).mono ?_
            rintro e w2 ⟨rfl, hb2⟩
            have HV2 := Lib.hid (HV1.out.below hb2 HV1.out.2.2.2)
            have HE2 := Lib.hid (HE1.out.below hb2 (Nat.le_refl _))
            have HB3 := Lib.hid (HB2.out.trans (hb2.mono HB2.out.size)); clear hb2
            obtain ⟨c0, c1, c2, cs⟩ := HV2.out
            have hlt : w.heap.size < w2.heap.size := cs
            have hne : ¬ (w.heap.size = w2.heap.size) := by omega
            have hne' : ¬ (w2.heap.size = w.heap.size) := by omega
            have HW2 := Lib.hid (BW.new w2 96)
            have hbz : Below w2.heap.size w2 (w2.alloc (.cells #[.string nos, .string nos, .bool false, .bool false] 96)) := (Below.refl _ _).alloc (Nat.le_refl _) _
            have HV3 := Lib.hid (HV2.out.below hbz HV2.out.2.2.2)
            have HE3 := Lib.hid (HE2.out.below hbz (Nat.le_refl _))
            have HB4 := Lib.hid (HB3.out.trans (hbz.mono HB3.out.size)); clear hbz
            go_wp2_with fail

            rw [show (⟨#[]⟩ : ByteArray) = nos from rfl]
            generalize w2.alloc (.cells #[.string nos, .string nos, .bool false, .bool false] 96) = w3 at *

            refine (HC.out _ HE3.out).mono ?_
            rintro e w4 ⟨rfl, hb4⟩
            have HV4 := Lib.hid (HV3.out.below hb4 HV3.out.2.2.2)
            have HW4 := Lib.hid (HW2.out.below hb4 HW2.out.2.2.2.2.2.2.2.2)
            have HB4' := Lib.hid (HB4.out.trans (hb4.mono HB4.out.size)); clear hb4
            clear c0 c1 c2 cs
            obtain ⟨c0, c1, c2, cs⟩ := HV4.out
            have HCM1 := Lib.hid (fun W => HCM.out W (decide ((48 : Int) ≤ s.size)))
            have HCZ1 := Lib.hid (HCZ.out (decide ((48 : Int) ≤ s.size)))
            have HK := Lib.hid (HKY.out (cmpV op ek (decide ((48 : Int) ≤ s.size))).1 (cmpV op ek (decide ((48 : Int) ≤ s.size))).2.1 (cmpV op ek (decide ((48 : Int) ≤ s.size))).2.2.1 (cmpV op ek (decide ((48 : Int) ≤ s.size))).2.2.2 (by have := HCZ1.out.1; omega) (by have := HCZ1.out.2; omega))

            generalize hkv : keysV (cmpV op ek (decide ((48 : Int) ≤ s.size))).1 (cmpV op ek (decide ((48 : Int) ≤ s.size))).2.1 (cmpV op ek (decide ((48 : Int) ≤ s.size))).2.2.1 (cmpV op ek (decide ((48 : Int) ≤ s.size))).2.2.2 4 d = kv at *
            obtain ⟨kl, kh⟩ := kv
            have HFIN : Hid (V = (kl, kh, false)) := Lib.hid (by rw [HRV.out, if_neg (by simp), HRB.out, if_neg (by simp), if_neg (by simp), show decide (((4 : Nat) : Int) = 4 ∧ 48 ≤ s.size) = (decide ((48 : Int) ≤ s.size)) by rw [decide_eq_decide]; omega, hkv, HRS.out]; exact congrArg (fun z => (kl, kh, z)) (by have := HBZ0.out; simp [this]))
            clear hkv
            generalize (cmpV op ek (decide ((48 : Int) ≤ s.size))).1 = lo at *
            generalize (cmpV op ek (decide ((48 : Int) ≤ s.size))).2.1 = hi at *
            generalize (cmpV op ek (decide ((48 : Int) ≤ s.size))).2.2.1 = a' at *
            generalize (cmpV op ek (decide ((48 : Int) ≤ s.size))).2.2.2 = b' at *
            go_wp2_with fail
            refine (HCM1.out _).mono ?_
            rintro e w5 ⟨rfl, hb5⟩
            have HV5 := Lib.hid (HV4.out.below hb5 HV4.out.2.2.2)
            have HW5 := Lib.hid (HW4.out.below hb5 HW4.out.2.2.2.2.2.2.2.2)
            have HB5 := Lib.hid (HB4'.out.trans (hb5.mono HB4'.out.size)); clear hb5

            clear c0 c1 c2 cs
            obtain ⟨c0, c1, c2, cs⟩ := HV5.out
            obtain ⟨d0, d1, d2, d3, f0, f1, f2, f3, ds⟩ := HW5.out
            go_wp2_with fail
            refine (HK.out _).mono ?_
            rintro e w6 ⟨rfl, hb6⟩
            have HB6 : Hid (Below w.heap.size w w6) := Lib.hid (by
              refine Below.trans ?_ (hb6.mono ?_)
              · repeat (first | exact HB5.out | (refine Below.drew ?_) | (refine Below.setCell ?_ (by first | exact Nat.le_refl _ | (simp; done) | (simp; omega) | omega) _))
              · have := HB5.out.size; first | (simp; omega) | omega)
            have g2 : w6.cell? ⟨w.heap.size, 2, none⟩ = some (.string s) := (hb6.cell (p := ⟨w.heap.size, 2, none⟩) (by first | (simp; omega) | omega)).trans (by go_simp)
            go_wp2_with fail
            exact bodyPost_ret (v := .tuple #[.string kl, .string kh, .bool false, .int .i64 0]) (by simp [results, Tryd.results38, go_sem, h48]) rfl (RgV.of HFIN.out HB6.out)
          · have HBZ0 := Lib.hid hbz0; clear hbz0
            have H48N := Lib.hid h48n; clear h48n

            go_enter Tryd.func38, Tryd.ntmps38
            go_wp2_with fail
            refine (HW.out).mono ?_
            rintro e w1 ⟨rfl, hb1⟩
            have HV1 := Lib.hid (HV.out.below hb1 HV.out.2.2.2)
            have HE1 := Lib.hid (HE.out.below hb1 (Nat.le_refl _))
            have HB2 := Lib.hid (HB1.out.trans (hb1.mono HB1.out.size)); clear hb1
            go_wp2_with fail
            refine (HI.out _).mono ?_
            rintro e w2 ⟨rfl, hb2⟩
            have HV2 := Lib.hid (HV1.out.below hb2 HV1.out.2.2.2)
            have HE2 := Lib.hid (HE1.out.below hb2 (Nat.le_refl _))
            have HB3 := Lib.hid (HB2.out.trans (hb2.mono HB2.out.size)); clear hb2
            obtain ⟨c0, c1, c2, cs⟩ := HV2.out
            have hlt : w.heap.size < w2.heap.size := cs
            have hne : ¬ (w.heap.size = w2.heap.size) := by omega
            have hne' : ¬ (w2.heap.size = w.heap.size) := by omega
            have HW2 := Lib.hid (BW.new w2 96)
            have hbz : Below w2.heap.size w2 (w2.alloc (.cells #[.string nos, .string nos, .bool false, .bool false] 96)) := (Below.refl _ _).alloc (Nat.le_refl _) _
            have HV3 := Lib.hid (HV2.out.below hbz HV2.out.2.2.2)
            have HE3 := Lib.hid (HE2.out.below hbz (Nat.le_refl _))
            have HB4 := Lib.hid (HB3.out.trans (hbz.mono HB3.out.size)); clear hbz
            go_wp2_with fail

            rw [show (⟨#[]⟩ : ByteArray) = nos from rfl]
            generalize w2.alloc (.cells #[.string nos, .string nos, .bool false, .bool false] 96) = w3 at *

            refine (HC.out _ HE3.out).mono ?_
            rintro e w4 ⟨rfl, hb4⟩
            have HV4 := Lib.hid (HV3.out.below hb4 HV3.out.2.2.2)
            have HW4 := Lib.hid (HW2.out.below hb4 HW2.out.2.2.2.2.2.2.2.2)
            have HB4' := Lib.hid (HB4.out.trans (hb4.mono HB4.out.size)); clear hb4
            clear c0 c1 c2 cs
            obtain ⟨c0, c1, c2, cs⟩ := HV4.out
            have HCM1 := Lib.hid (fun W => HCM.out W true)
            have HCZ1 := Lib.hid (HCZ.out true)
            have HK := Lib.hid (HKY.out (cmpV op ek true).1 (cmpV op ek true).2.1 (cmpV op ek true).2.2.1 (cmpV op ek true).2.2.2 (by have := HCZ1.out.1; omega) (by have := HCZ1.out.2; omega))

            generalize hkv : keysV (cmpV op ek true).1 (cmpV op ek true).2.1 (cmpV op ek true).2.2.1 (cmpV op ek true).2.2.2 4 d = kv at *
            obtain ⟨kl, kh⟩ := kv
            have HFIN : Hid (V = (kl, kh, false)) := Lib.hid (by rw [HRV.out, if_neg (by simp), HRB.out, if_neg (by simp), if_neg (by simp), show decide (((4 : Nat) : Int) = 4 ∧ 48 ≤ s.size) = true by have := H48N.out; simp; omega, hkv, HRS.out]; exact congrArg (fun z => (kl, kh, z)) (by have := HBZ0.out; simp [this]))
            clear hkv
            generalize (cmpV op ek true).1 = lo at *
            generalize (cmpV op ek true).2.1 = hi at *
            generalize (cmpV op ek true).2.2.1 = a' at *
            generalize (cmpV op ek true).2.2.2 = b' at *
            go_wp2_with fail
            refine (HCM1.out _).mono ?_
            rintro e w5 ⟨rfl, hb5⟩
            have HV5 := Lib.hid (HV4.out.below hb5 HV4.out.2.2.2)
            have HW5 := Lib.hid (HW4.out.below hb5 HW4.out.2.2.2.2.2.2.2.2)
            have HB5 := Lib.hid (HB4'.out.trans (hb5.mono HB4'.out.size)); clear hb5

            clear c0 c1 c2 cs
            obtain ⟨c0, c1, c2, cs⟩ := HV5.out
            obtain ⟨d0, d1, d2, d3, f0, f1, f2, f3, ds⟩ := HW5.out
            go_wp2_with fail
            refine (HK.out _).mono ?_
            rintro e w6 ⟨rfl, hb6⟩
            have HB6 : Hid (Below w.heap.size w w6) := Lib.hid (by
              refine Below.trans ?_ (hb6.mono ?_)
              · repeat (first | exact HB5.out | (refine Below.drew ?_) | (refine Below.setCell ?_ (by first | exact Nat.le_refl _ | (simp; done) | (simp; omega) | omega) _))
              · have := HB5.out.size; first | (simp; omega) | omega)
            have g2 : w6.cell? ⟨w.heap.size, 2, none⟩ = some (.string s) := (hb6.cell (p := ⟨w.heap.size, 2, none⟩) (by first | (simp; omega) | omega)).trans (by go_simp)
            go_wp2_with fail
            exact bodyPost_ret (v := .tuple #[.string kl, .string kh, .bool false, .int .i64 0]) (by simp [results, Tryd.results38, go_sem, h48]) rfl (RgV.of HFIN.out HB6.out)
    · cases x
      · rcases hbc with ⟨hbc, hbn, hbz0⟩ | ⟨hbc, hbn, hbz0⟩
        · rcases h48 with ⟨h48, h48', h48n⟩ | ⟨h48, h48', h48n⟩
          · have HBZ0 := Lib.hid hbz0; clear hbz0
            have H48N := Lib.hid h48n; clear h48n

            go_enter Tryd.func38, Tryd.ntmps38
            go_wp2_with fail
            refine (HW.out).mono ?_
            rintro e w1 ⟨rfl, hb1⟩
            have HV1 := Lib.hid (HV.out.below hb1 HV.out.2.2.2)
            have HE1 := Lib.hid (HE.out.below hb1 (Nat.le_refl _))
            have HB2 := Lib.hid (HB1.out.trans (hb1.mono HB1.out.size)); clear hb1
            go_wp2_with fail
            refine (HI.out _).mono ?_
            rintro e w2 ⟨rfl, hb2⟩
            have HV2 := Lib.hid (HV1.out.below hb2 HV1.out.2.2.2)
            have HE2 := Lib.hid (HE1.out.below hb2 (Nat.le_refl _))
            have HB3 := Lib.hid (HB2.out.trans (hb2.mono HB2.out.size)); clear hb2
            obtain ⟨c0, c1, c2, cs⟩ := HV2.out
            have hlt : w.heap.size < w2.heap.size := cs
            have hne : ¬ (w.heap.size = w2.heap.size) := by omega
            have hne' : ¬ (w2.heap.size = w.heap.size) := by omega
            have HW2 := Lib.hid (BW.new w2 96)
            have hbz : Below w2.heap.size w2 (w2.alloc (.cells #[.string nos, .string nos, .bool false, .bool false] 96)) := (Below.refl _ _).alloc (Nat.le_refl _) _
            have HV3 := Lib.hid (HV2.out.below hbz HV2.out.2.2.2)
            have HE3 := Lib.hid (HE2.out.below hbz (Nat.le_refl _))
            have HB4 := Lib.hid (HB3.out.trans (hbz.mono HB3.out.size)); clear hbz
            go_wp2_with fail
            refine (HPX.out _ HE2.out).mono ?_
            rintro e w4 ⟨rfl, hb4⟩
            have HV4 := Lib.hid (HV2.out.below hb4 HV2.out.2.2.2)
            have HB4' := Lib.hid (HB3.out.trans (hb4.mono HB3.out.size)); clear hb4
            go_wp2_with fail
            refine (HTU.out _).mono ?_
            rintro e w5 ⟨rfl, hb5⟩
            have HV5 := Lib.hid (HV4.out.below hb5 HV4.out.2.2.2)
            have HB5 := Lib.hid (HB4'.out.trans (hb5.mono HB4'.out.size)); clear hb5
            have HFIN : Hid (V = (tp, oT (behO tp.data.toList), true)) := Lib.hid (by rw [HRV.out, if_pos (by simp)]; exact congrArg (fun z => (tp, oT (behO tp.data.toList), z)) (by have := H48N.out; have h2 := HBZ0.out; simp [h2]; try omega))
            generalize oT (behO tp.data.toList) = bh at *
            generalize (behO tp.data.toList).isSome = bs at *
            go_wp2_with fail
            refine (HBH.out _).mono ?_
            rintro e w6 ⟨rfl, hb6⟩
            have HV6 := Lib.hid (HV5.out.below hb6 HV5.out.2.2.2)
            have HB6 := Lib.hid (HB5.out.trans (hb6.mono HB5.out.size)); clear hb6
            clear c0 c1 c2 cs
            obtain ⟨c0, c1, c2, cs⟩ := HV6.out
            go_wp2_with fail
            go_quiet (fail)
            go_wp2_with fail
            exact bodyPost_ret (v := .tuple #[.string tp, .string bh, .bool true, .int .i64 0]) (by simp [results, Tryd.results38, go_sem, h48]) rfl (RgV.of HFIN.out (Dr.below HB6.out ⟨_, rfl⟩))
          · have HBZ0 := Lib.hid hbz0; clear hbz0
            have H48N := Lib.hid h48n; clear h48n

            go_enter Tryd.func38, Tryd.ntmps38
            go_wp2_with fail
            refine (HW.out).mono ?_
            rintro e w1 ⟨rfl, hb1⟩
            have HV1 := Lib.hid (HV.out.below hb1 HV.out.2.2.2)
            have HE1 := Lib.hid (HE.out.below hb1 (Nat.le_refl _))
            have HB2 := Lib.hid (HB1.out.trans (hb1.mono HB1.out.size)); clear hb1
            go_wp2_with fail
            refine (HI.out _).mono ?_
            rintro e w2 ⟨rfl, hb2⟩
            have HV2 := Lib.hid (HV1.out.below hb2 HV1.out.2.2.2)
            have HE2 := Lib.hid (HE1.out.below hb2 (Nat.le_refl _))
            have HB3 := Lib.hid (HB2.out.trans (hb2.mono HB2.out.size)); clear hb2
            obtain ⟨c0, c1, c2, cs⟩ := HV2.out
            have hlt : w.heap.size < w2.heap.size := cs
            have hne : ¬ (w.heap.size = w2.heap.size) := by omega
            have hne' : ¬ (w2.heap.size = w.heap.size) := by omega
            have HW2 := Lib.hid (BW.new w2 96)
            have hbz : Below w2.heap.size w2 (w2.alloc (.cells #[.string nos, .string nos, .bool false, .bool false] 96)) := (Below.refl _ _).alloc (Nat.le_refl _) _
            have HV3 := Lib.hid (HV2.out.below hbz HV2.out.2.2.2)
            have HE3 := Lib.hid (HE2.out.below hbz (Nat.le_refl _))
            have HB4 := Lib.hid (HB3.out.trans (hbz.mono HB3.out.size)); clear hbz
            go_wp2_with fail
            refine (HPX.out _ HE2.out).mono ?_
            rintro e w4 ⟨rfl, hb4⟩
            have HV4 := Lib.hid (HV2.out.below hb4 HV2.out.2.2.2)
            have HB4' := Lib.hid (HB3.out.trans (hb4.mono HB3.out.size)); clear hb4
            go_wp2_with fail
            refine (HTU.out _).mono ?_
            rintro e w5 ⟨rfl, hb5⟩
            have HV5 := Lib.hid (HV4.out.below hb5 HV4.out.2.2.2)
            have HB5 := Lib.hid (HB4'.out.trans (hb5.mono HB4'.out.size)); clear hb5
            have HFIN : Hid (V = (tp, oT (behO tp.data.toList), false)) := Lib.hid (by rw [HRV.out, if_pos (by simp)]; exact congrArg (fun z => (tp, oT (behO tp.data.toList), z)) (by have := H48N.out; have h2 := HBZ0.out; simp [h2]; try omega))
            generalize oT (behO tp.data.toList) = bh at *
            generalize (behO tp.data.toList).isSome = bs at *
            go_wp2_with fail
            refine (HBH.out _).mono ?_
            rintro e w6 ⟨rfl, hb6⟩
            have HV6 := Lib.hid (HV5.out.below hb6 HV5.out.2.2.2)
            have HB6 := Lib.hid (HB5.out.trans (hb6.mono HB5.out.size)); clear hb6
            clear c0 c1 c2 cs
            obtain ⟨c0, c1, c2, cs⟩ := HV6.out
            go_wp2_with fail
            go_quiet (fail)
            go_wp2_with fail
            exact bodyPost_ret (v := .tuple #[.string tp, .string bh, .bool false, .int .i64 0]) (by simp [results, Tryd.results38, go_sem, h48]) rfl (RgV.of HFIN.out (Dr.below HB6.out ⟨_, rfl⟩))
        · rcases h48 with ⟨h48, h48', h48n⟩ | ⟨h48, h48', h48n⟩
          · have HBZ0 := Lib.hid hbz0; clear hbz0
            have H48N := Lib.hid h48n; clear h48n

            go_enter Tryd.func38, Tryd.ntmps38
            go_wp2_with fail
            refine (HW.out).mono ?_
            rintro e w1 ⟨rfl, hb1⟩
            have HV1 := Lib.hid (HV.out.below hb1 HV.out.2.2.2)
            have HE1 := Lib.hid (HE.out.below hb1 (Nat.le_refl _))
            have HB2 := Lib.hid (HB1.out.trans (hb1.mono HB1.out.size)); clear hb1
            go_wp2_with fail
            refine (HI.out _).mono ?_
            rintro e w2 ⟨rfl, hb2⟩
            have HV2 := Lib.hid (HV1.out.below hb2 HV1.out.2.2.2)
            have HE2 := Lib.hid (HE1.out.below hb2 (Nat.le_refl _))
            have HB3 := Lib.hid (HB2.out.trans (hb2.mono HB2.out.size)); clear hb2
            obtain ⟨c0, c1, c2, cs⟩ := HV2.out
            have hlt : w.heap.size < w2.heap.size := cs
            have hne : ¬ (w.heap.size = w2.heap.size) := by omega
            have hne' : ¬ (w2.heap.size = w.heap.size) := by omega
            have HW2 := Lib.hid (BW.new w2 96)
            have hbz : Below w2.heap.size w2 (w2.alloc (.cells #[.string nos, .string nos, .bool false, .bool false] 96)) := (Below.refl _ _).alloc (Nat.le_refl _) _
            have HV3 := Lib.hid (HV2.out.below hbz HV2.out.2.2.2)
            have HE3 := Lib.hid (HE2.out.below hbz (Nat.le_refl _))
            have HB4 := Lib.hid (HB3.out.trans (hbz.mono HB3.out.size)); clear hbz
            go_wp2_with fail
            refine (HPX.out _ HE2.out).mono ?_
            rintro e w4 ⟨rfl, hb4⟩
            have HV4 := Lib.hid (HV2.out.below hb4 HV2.out.2.2.2)
            have HB4' := Lib.hid (HB3.out.trans (hb4.mono HB3.out.size)); clear hb4
            go_wp2_with fail
            refine (HTU.out _).mono ?_
            rintro e w5 ⟨rfl, hb5⟩
            have HV5 := Lib.hid (HV4.out.below hb5 HV4.out.2.2.2)
            have HB5 := Lib.hid (HB4'.out.trans (hb5.mono HB4'.out.size)); clear hb5
            have HFIN : Hid (V = (tp, oT (behO tp.data.toList), false)) := Lib.hid (by rw [HRV.out, if_pos (by simp)]; exact congrArg (fun z => (tp, oT (behO tp.data.toList), z)) (by have := H48N.out; have h2 := HBZ0.out; simp [h2]; try omega))
            generalize oT (behO tp.data.toList) = bh at *
            generalize (behO tp.data.toList).isSome = bs at *
            go_wp2_with fail
            refine (HBH.out _).mono ?_
            rintro e w6 ⟨rfl, hb6⟩
            have HV6 := Lib.hid (HV5.out.below hb6 HV5.out.2.2.2)
            have HB6 := Lib.hid (HB5.out.trans (hb6.mono HB5.out.size)); clear hb6
            clear c0 c1 c2 cs
            obtain ⟨c0, c1, c2, cs⟩ := HV6.out
            go_wp2_with fail
            go_quiet (fail)
            go_wp2_with fail
            exact bodyPost_ret (v := .tuple #[.string tp, .string bh, .bool false, .int .i64 0]) (by simp [results, Tryd.results38, go_sem, h48]) rfl (RgV.of HFIN.out (Dr.below HB6.out ⟨_, rfl⟩))
          · have HBZ0 := Lib.hid hbz0; clear hbz0
            have H48N := Lib.hid h48n; clear h48n

            go_enter Tryd.func38, Tryd.ntmps38
            go_wp2_with fail
            refine (HW.out).mono ?_
            rintro e w1 ⟨rfl, hb1⟩
            have HV1 := Lib.hid (HV.out.below hb1 HV.out.2.2.2)
            have HE1 := Lib.hid (HE.out.below hb1 (Nat.le_refl _))
            have HB2 := Lib.hid (HB1.out.trans (hb1.mono HB1.out.size)); clear hb1
            go_wp2_with fail
            refine (HI.out _).mono ?_
            rintro e w2 ⟨rfl, hb2⟩
            have HV2 := Lib.hid (HV1.out.below hb2 HV1.out.2.2.2)
            have HE2 := Lib.hid (HE1.out.below hb2 (Nat.le_refl _))
            have HB3 := Lib.hid (HB2.out.trans (hb2.mono HB2.out.size)); clear hb2
            obtain ⟨c0, c1, c2, cs⟩ := HV2.out
            have hlt : w.heap.size < w2.heap.size := cs
            have hne : ¬ (w.heap.size = w2.heap.size) := by omega
            have hne' : ¬ (w2.heap.size = w.heap.size) := by omega
            have HW2 := Lib.hid (BW.new w2 96)
            have hbz : Below w2.heap.size w2 (w2.alloc (.cells #[.string nos, .string nos, .bool false, .bool false] 96)) := (Below.refl _ _).alloc (Nat.le_refl _) _
            have HV3 := Lib.hid (HV2.out.below hbz HV2.out.2.2.2)
            have HE3 := Lib.hid (HE2.out.below hbz (Nat.le_refl _))
            have HB4 := Lib.hid (HB3.out.trans (hbz.mono HB3.out.size)); clear hbz
            go_wp2_with fail
            refine (HPX.out _ HE2.out).mono ?_
            rintro e w4 ⟨rfl, hb4⟩
            have HV4 := Lib.hid (HV2.out.below hb4 HV2.out.2.2.2)
            have HB4' := Lib.hid (HB3.out.trans (hb4.mono HB3.out.size)); clear hb4
            go_wp2_with fail
            refine (HTU.out _).mono ?_
            rintro e w5 ⟨rfl, hb5⟩
            have HV5 := Lib.hid (HV4.out.below hb5 HV4.out.2.2.2)
            have HB5 := Lib.hid (HB4'.out.trans (hb5.mono HB4'.out.size)); clear hb5
            have HFIN : Hid (V = (tp, oT (behO tp.data.toList), false)) := Lib.hid (by rw [HRV.out, if_pos (by simp)]; exact congrArg (fun z => (tp, oT (behO tp.data.toList), z)) (by have := H48N.out; have h2 := HBZ0.out; simp [h2]; try omega))
            generalize oT (behO tp.data.toList) = bh at *
            generalize (behO tp.data.toList).isSome = bs at *
            go_wp2_with fail
            refine (HBH.out _).mono ?_
            rintro e w6 ⟨rfl, hb6⟩
            have HV6 := Lib.hid (HV5.out.below hb6 HV5.out.2.2.2)
            have HB6 := Lib.hid (HB5.out.trans (hb6.mono HB5.out.size)); clear hb6
            clear c0 c1 c2 cs
            obtain ⟨c0, c1, c2, cs⟩ := HV6.out
            go_wp2_with fail
            go_quiet (fail)
            go_wp2_with fail
            exact bodyPost_ret (v := .tuple #[.string tp, .string bh, .bool false, .int .i64 0]) (by simp [results, Tryd.results38, go_sem, h48]) rfl (RgV.of HFIN.out (Dr.below HB6.out ⟨_, rfl⟩))
      · rcases hbc with ⟨hbc, hbn, hbz0⟩ | ⟨hbc, hbn, hbz0⟩
        · rcases h48 with ⟨h48, h48', h48n⟩ | ⟨h48, h48', h48n⟩
          · have HBZ0 := Lib.hid hbz0; clear hbz0
            have H48N := Lib.hid h48n; clear h48n

            go_enter Tryd.func38, Tryd.ntmps38
            go_wp2_with fail
            refine (HW.out).mono ?_
            rintro e w1 ⟨rfl, hb1⟩
            have HV1 := Lib.hid (HV.out.below hb1 HV.out.2.2.2)
            have HE1 := Lib.hid (HE.out.below hb1 (Nat.le_refl _))
            have HB2 := Lib.hid (HB1.out.trans (hb1.mono HB1.out.size)); clear hb1
            go_wp2_with fail
            refine (HI.out _).mono ?_
            rintro e w2 ⟨rfl, hb2⟩
            have HV2 := Lib.hid (HV1.out.below hb2 HV1.out.2.2.2)
            have HE2 := Lib.hid (HE1.out.below hb2 (Nat.le_refl _))
            have HB3 := Lib.hid (HB2.out.trans (hb2.mono HB2.out.size)); clear hb2
            obtain ⟨c0, c1, c2, cs⟩ := HV2.out
            have hlt : w.heap.size < w2.heap.size := cs
            have hne : ¬ (w.heap.size = w2.heap.size) := by omega
            have hne' : ¬ (w2.heap.size = w.heap.size) := by omega
            have HW2 := Lib.hid (BW.new w2 96)
            have hbz : Below w2.heap.size w2 (w2.alloc (.cells #[.string nos, .string nos, .bool false, .bool false] 96)) := (Below.refl _ _).alloc (Nat.le_refl _) _
            have HV3 := Lib.hid (HV2.out.below hbz HV2.out.2.2.2)
            have HE3 := Lib.hid (HE2.out.below hbz (Nat.le_refl _))
            have HB4 := Lib.hid (HB3.out.trans (hbz.mono HB3.out.size)); clear hbz
            go_wp2_with fail

            rw [show (⟨#[]⟩ : ByteArray) = nos from rfl]
            generalize w2.alloc (.cells #[.string nos, .string nos, .bool false, .bool false] 96) = w3 at *

            refine (HTM.out _ HE3.out).mono ?_
            rintro e w5 ⟨rfl, hb5⟩
            have HV5 := Lib.hid (HV3.out.below hb5 HV3.out.2.2.2)
            have HW5 := Lib.hid (HW2.out.below hb5 HW2.out.2.2.2.2.2.2.2.2)
            have HB5 := Lib.hid (HB4.out.trans (hb5.mono HB4.out.size)); clear hb5
            have HK := Lib.hid (HKY.out tl th true true HZT.out.1 HZT.out.2)
            generalize hkv : keysV tl th true true 4 d = kv at *
            obtain ⟨kl, kh⟩ := kv
            have HFIN : Hid (V = (kl, kh, false)) := Lib.hid (by rw [HRV.out, if_neg (by simp), HRB.out, if_pos (by simp), hkv, HRS.out]; exact congrArg (fun z => (kl, kh, z)) (by simp))
            clear hkv

            clear c0 c1 c2 cs
            obtain ⟨c0, c1, c2, cs⟩ := HV5.out
            obtain ⟨d0, d1, d2, d3, f0, f1, f2, f3, ds⟩ := HW5.out
            go_wp2_with fail
            refine (HK.out _).mono ?_
            rintro e w6 ⟨rfl, hb6⟩
            have HB6 : Hid (Below w.heap.size w w6) := Lib.hid (by
              refine Below.trans ?_ (hb6.mono ?_)
              · repeat (first | exact HB5.out | (refine Below.drew ?_) | (refine Below.setCell ?_ (by first | exact Nat.le_refl _ | (simp; done) | (simp; omega) | omega) _))
              · have := HB5.out.size; first | (simp; omega) | omega)
            have g2 : w6.cell? ⟨w.heap.size, 2, none⟩ = some (.string s) := (hb6.cell (p := ⟨w.heap.size, 2, none⟩) (by first | (simp; omega) | omega)).trans (by go_simp)
            go_wp2_with fail
            exact bodyPost_ret (v := .tuple #[.string kl, .string kh, .bool false, .int .i64 0]) (by simp [results, Tryd.results38, go_sem, h48]) rfl (RgV.of HFIN.out HB6.out)
          · have HBZ0 := Lib.hid hbz0; clear hbz0
            have H48N := Lib.hid h48n; clear h48n

            go_enter Tryd.func38, Tryd.ntmps38
            go_wp2_with fail
            refine (HW.out).mono ?_
            rintro e w1 ⟨rfl, hb1⟩
            have HV1 := Lib.hid (HV.out.below hb1 HV.out.2.2.2)
            have HE1 := Lib.hid (HE.out.below hb1 (Nat.le_refl _))
            have HB2 := Lib.hid (HB1.out.trans (hb1.mono HB1.out.size)); clear hb1
            go_wp2_with fail
            refine (HI.out _).mono ?_
            rintro e w2 ⟨rfl, hb2⟩
            have HV2 := Lib.hid (HV1.out.below hb2 HV1.out.2.2.2)
            have HE2 := Lib.hid (HE1.out.below hb2 (Nat.le_refl _))
            have HB3 := Lib.hid (HB2.out.trans (hb2.mono HB2.out.size)); clear hb2
            obtain ⟨c0, c1, c2, cs⟩ := HV2.out
            have hlt : w.heap.size < w2.heap.size := cs
            have hne : ¬ (w.heap.size = w2.heap.size) := by omega
            have hne' : ¬ (w2.heap.size = w.heap.size) := by omega
            have HW2 := Lib.hid (BW.new w2 96)
            have hbz : Below w2.heap.size w2 (w2.alloc (.cells #[.string nos, .string nos, .bool false, .bool false] 96)) := (Below.refl _ _).alloc (Nat.le_refl _) _
            have HV3 := Lib.hid (HV2.out.below hbz HV2.out.2.2.2)
            have HE3 := Lib.hid (HE2.out.below hbz (Nat.le_refl _))
            have HB4 := Lib.hid (HB3.out.trans (hbz.mono HB3.out.size)); clear hbz
            go_wp2_with fail

            rw [show (⟨#[]⟩ : ByteArray) = nos from rfl]
            generalize w2.alloc (.cells #[.string nos, .string nos, .bool false, .bool false] 96) = w3 at *

            refine (HTM.out _ HE3.out).mono ?_
            rintro e w5 ⟨rfl, hb5⟩
            have HV5 := Lib.hid (HV3.out.below hb5 HV3.out.2.2.2)
            have HW5 := Lib.hid (HW2.out.below hb5 HW2.out.2.2.2.2.2.2.2.2)
            have HB5 := Lib.hid (HB4.out.trans (hb5.mono HB4.out.size)); clear hb5
            have HK := Lib.hid (HKY.out tl th true true HZT.out.1 HZT.out.2)
            generalize hkv : keysV tl th true true 4 d = kv at *
            obtain ⟨kl, kh⟩ := kv
            have HFIN : Hid (V = (kl, kh, false)) := Lib.hid (by rw [HRV.out, if_neg (by simp), HRB.out, if_pos (by simp), hkv, HRS.out]; exact congrArg (fun z => (kl, kh, z)) (by simp))
            clear hkv

            clear c0 c1 c2 cs
            obtain ⟨c0, c1, c2, cs⟩ := HV5.out
            obtain ⟨d0, d1, d2, d3, f0, f1, f2, f3, ds⟩ := HW5.out
            go_wp2_with fail
            refine (HK.out _).mono ?_
            rintro e w6 ⟨rfl, hb6⟩
            have HB6 : Hid (Below w.heap.size w w6) := Lib.hid (by
              refine Below.trans ?_ (hb6.mono ?_)
              · repeat (first | exact HB5.out | (refine Below.drew ?_) | (refine Below.setCell ?_ (by first | exact Nat.le_refl _ | (simp; done) | (simp; omega) | omega) _))
              · have := HB5.out.size; first | (simp; omega) | omega)
            have g2 : w6.cell? ⟨w.heap.size, 2, none⟩ = some (.string s) := (hb6.cell (p := ⟨w.heap.size, 2, none⟩) (by first | (simp; omega) | omega)).trans (by go_simp)
            go_wp2_with fail
            exact bodyPost_ret (v := .tuple #[.string kl, .string kh, .bool false, .int .i64 0]) (by simp [results, Tryd.results38, go_sem, h48]) rfl (RgV.of HFIN.out HB6.out)
        · rcases h48 with ⟨h48, h48', h48n⟩ | ⟨h48, h48', h48n⟩
          · have HBZ0 := Lib.hid hbz0; clear hbz0
            have H48N := Lib.hid h48n; clear h48n

            go_enter Tryd.func38, Tryd.ntmps38
            go_wp2_with fail
            refine (HW.out).mono ?_
            rintro e w1 ⟨rfl, hb1⟩
            have HV1 := Lib.hid (HV.out.below hb1 HV.out.2.2.2)
            have HE1 := Lib.hid (HE.out.below hb1 (Nat.le_refl _))
            have HB2 := Lib.hid (HB1.out.trans (hb1.mono HB1.out.size)); clear hb1
            go_wp2_with fail
            refine (HI.out _).mono ?_
            rintro e w2 ⟨rfl, hb2⟩
            have HV2 := Lib.hid (HV1.out.below hb2 HV1.out.2.2.2)
            have HE2 := Lib.hid (HE1.out.below hb2 (Nat.le_refl _))
            have HB3 := Lib.hid (HB2.out.trans (hb2.mono HB2.out.size)); clear hb2
            obtain ⟨c0, c1, c2, cs⟩ := HV2.out
            have hlt : w.heap.size < w2.heap.size := cs
            have hne : ¬ (w.heap.size = w2.heap.size) := by omega
            have hne' : ¬ (w2.heap.size = w.heap.size) := by omega
            have HW2 := Lib.hid (BW.new w2 96)
            have hbz : Below w2.heap.size w2 (w2.alloc (.cells #[.string nos, .string nos, .bool false, .bool false] 96)) := (Below.refl _ _).alloc (Nat.le_refl _) _
            have HV3 := Lib.hid (HV2.out.below hbz HV2.out.2.2.2)
            have HE3 := Lib.hid (HE2.out.below hbz (Nat.le_refl _))
            have HB4 := Lib.hid (HB3.out.trans (hbz.mono HB3.out.size)); clear hbz
            go_wp2_with fail

            rw [show (⟨#[]⟩ : ByteArray) = nos from rfl]
            generalize w2.alloc (.cells #[.string nos, .string nos, .bool false, .bool false] 96) = w3 at *

            refine (HTM.out _ HE3.out).mono ?_
            rintro e w5 ⟨rfl, hb5⟩
            have HV5 := Lib.hid (HV3.out.below hb5 HV3.out.2.2.2)
            have HW5 := Lib.hid (HW2.out.below hb5 HW2.out.2.2.2.2.2.2.2.2)
            have HB5 := Lib.hid (HB4.out.trans (hb5.mono HB4.out.size)); clear hb5
            have HK := Lib.hid (HKY.out tl th true true HZT.out.1 HZT.out.2)
            generalize hkv : keysV tl th true true 4 d = kv at *
            obtain ⟨kl, kh⟩ := kv
            have HFIN : Hid (V = (kl, kh, false)) := Lib.hid (by rw [HRV.out, if_neg (by simp), HRB.out, if_pos (by simp), hkv, HRS.out]; exact congrArg (fun z => (kl, kh, z)) (by simp))
            clear hkv

            clear c0 c1 c2 cs
            obtain ⟨c0, c1, c2, cs⟩ := HV5.out
            obtain ⟨d0, d1, d2, d3, f0, f1, f2, f3, ds⟩ := HW5.out
            go_wp2_with fail
            refine (HK.out _).mono ?_
            rintro e w6 ⟨rfl, hb6⟩
            have HB6 : Hid (Below w.heap.size w w6) := Lib.hid (by
              refine Below.trans ?_ (hb6.mono ?_)
              · repeat (first | exact HB5.out | (refine Below.drew ?_) | (refine Below.setCell ?_ (by first | exact Nat.le_refl _ | (simp; done) | (simp; omega) | omega) _))
              · have := HB5.out.size; first | (simp; omega) | omega)
            have g2 : w6.cell? ⟨w.heap.size, 2, none⟩ = some (.string s) := (hb6.cell (p := ⟨w.heap.size, 2, none⟩) (by first | (simp; omega) | omega)).trans (by go_simp)
            go_wp2_with fail
            exact bodyPost_ret (v := .tuple #[.string kl, .string kh, .bool false, .int .i64 0]) (by simp [results, Tryd.results38, go_sem, h48]) rfl (RgV.of HFIN.out HB6.out)
          · have HBZ0 := Lib.hid hbz0; clear hbz0
            have H48N := Lib.hid h48n; clear h48n

            go_enter Tryd.func38, Tryd.ntmps38
            go_wp2_with fail
            refine (HW.out).mono ?_
            rintro e w1 ⟨rfl, hb1⟩
            have HV1 := Lib.hid (HV.out.below hb1 HV.out.2.2.2)
            have HE1 := Lib.hid (HE.out.below hb1 (Nat.le_refl _))
            have HB2 := Lib.hid (HB1.out.trans (hb1.mono HB1.out.size)); clear hb1
            go_wp2_with fail
            refine (HI.out _).mono ?_
            rintro e w2 ⟨rfl, hb2⟩
            have HV2 := Lib.hid (HV1.out.below hb2 HV1.out.2.2.2)
            have HE2 := Lib.hid (HE1.out.below hb2 (Nat.le_refl _))
            have HB3 := Lib.hid (HB2.out.trans (hb2.mono HB2.out.size)); clear hb2
            obtain ⟨c0, c1, c2, cs⟩ := HV2.out
            have hlt : w.heap.size < w2.heap.size := cs
            have hne : ¬ (w.heap.size = w2.heap.size) := by omega
            have hne' : ¬ (w2.heap.size = w.heap.size) := by omega
            have HW2 := Lib.hid (BW.new w2 96)
            have hbz : Below w2.heap.size w2 (w2.alloc (.cells #[.string nos, .string nos, .bool false, .bool false] 96)) := (Below.refl _ _).alloc (Nat.le_refl _) _
            have HV3 := Lib.hid (HV2.out.below hbz HV2.out.2.2.2)
            have HE3 := Lib.hid (HE2.out.below hbz (Nat.le_refl _))
            have HB4 := Lib.hid (HB3.out.trans (hbz.mono HB3.out.size)); clear hbz
            go_wp2_with fail

            rw [show (⟨#[]⟩ : ByteArray) = nos from rfl]
            generalize w2.alloc (.cells #[.string nos, .string nos, .bool false, .bool false] 96) = w3 at *

            refine (HTM.out _ HE3.out).mono ?_
            rintro e w5 ⟨rfl, hb5⟩
            have HV5 := Lib.hid (HV3.out.below hb5 HV3.out.2.2.2)
            have HW5 := Lib.hid (HW2.out.below hb5 HW2.out.2.2.2.2.2.2.2.2)
            have HB5 := Lib.hid (HB4.out.trans (hb5.mono HB4.out.size)); clear hb5
            have HK := Lib.hid (HKY.out tl th true true HZT.out.1 HZT.out.2)
            generalize hkv : keysV tl th true true 4 d = kv at *
            obtain ⟨kl, kh⟩ := kv
            have HFIN : Hid (V = (kl, kh, false)) := Lib.hid (by rw [HRV.out, if_neg (by simp), HRB.out, if_pos (by simp), hkv, HRS.out]; exact congrArg (fun z => (kl, kh, z)) (by simp))
            clear hkv

            clear c0 c1 c2 cs
            obtain ⟨c0, c1, c2, cs⟩ := HV5.out
            obtain ⟨d0, d1, d2, d3, f0, f1, f2, f3, ds⟩ := HW5.out
            go_wp2_with fail
            refine (HK.out _).mono ?_
            rintro e w6 ⟨rfl, hb6⟩
            have HB6 : Hid (Below w.heap.size w w6) := Lib.hid (by
              refine Below.trans ?_ (hb6.mono ?_)
              · repeat (first | exact HB5.out | (refine Below.drew ?_) | (refine Below.setCell ?_ (by first | exact Nat.le_refl _ | (simp; done) | (simp; omega) | omega) _))
              · have := HB5.out.size; first | (simp; omega) | omega)
            have g2 : w6.cell? ⟨w.heap.size, 2, none⟩ = some (.string s) := (hb6.cell (p := ⟨w.heap.size, 2, none⟩) (by first | (simp; omega) | omega)).trans (by go_simp)
            go_wp2_with fail
            exact bodyPost_ret (v := .tuple #[.string kl, .string kh, .bool false, .int .i64 0]) (by simp [results, Tryd.results38, go_sem, h48]) rfl (RgV.of HFIN.out HB6.out)
  · have hk4' : ((u : Int) == 4) = false := by rw [beq_eq_false_iff_ne]; omega
    have HK4 := Lib.hid hk4; clear hk4
    cases ob
    · rcases hbc with ⟨hbc, hbn, hbz0⟩ | ⟨hbc, hbn, hbz0⟩
      · have HBZ0 := Lib.hid hbz0; clear hbz0

        go_enter Tryd.func38, Tryd.ntmps38
        go_wp2_with fail
        refine (HW.out).mono ?_
        rintro e w1 ⟨rfl, hb1⟩
        have HV1 := Lib.hid (HV.out.below hb1 HV.out.2.2.2)
        have HE1 := Lib.hid (HE.out.below hb1 (Nat.le_refl _))
        have HB2 := Lib.hid (HB1.out.trans (hb1.mono HB1.out.size)); clear hb1
        go_wp2_with fail
        refine (HI.out _).mono ?_
        rintro e w2 ⟨rfl, hb2⟩
        have HV2 := Lib.hid (HV1.out.below hb2 HV1.out.2.2.2)
        have HE2 := Lib.hid (HE1.out.below hb2 (Nat.le_refl _))
        have HB3 := Lib.hid (HB2.out.trans (hb2.mono HB2.out.size)); clear hb2
        obtain ⟨c0, c1, c2, cs⟩ := HV2.out
        have hlt : w.heap.size < w2.heap.size := cs
        have hne : ¬ (w.heap.size = w2.heap.size) := by omega
        have hne' : ¬ (w2.heap.size = w.heap.size) := by omega
        have HW2 := Lib.hid (BW.new w2 96)
        have hbz : Below w2.heap.size w2 (w2.alloc (.cells #[.string nos, .string nos, .bool false, .bool false] 96)) := (Below.refl _ _).alloc (Nat.le_refl _) _
        have HV3 := Lib.hid (HV2.out.below hbz HV2.out.2.2.2)
        have HE3 := Lib.hid (HE2.out.below hbz (Nat.le_refl _))
        have HB4 := Lib.hid (HB3.out.trans (hbz.mono HB3.out.size)); clear hbz
        go_wp2_with fail

        rw [show (⟨#[]⟩ : ByteArray) = nos from rfl]
        generalize w2.alloc (.cells #[.string nos, .string nos, .bool false, .bool false] 96) = w3 at *

        refine (HC.out _ HE3.out).mono ?_
        rintro e w4 ⟨rfl, hb4⟩
        have HV4 := Lib.hid (HV3.out.below hb4 HV3.out.2.2.2)
        have HW4 := Lib.hid (HW2.out.below hb4 HW2.out.2.2.2.2.2.2.2.2)
        have HB4' := Lib.hid (HB4.out.trans (hb4.mono HB4.out.size)); clear hb4
        clear c0 c1 c2 cs
        obtain ⟨c0, c1, c2, cs⟩ := HV4.out
        have HCM1 := Lib.hid (fun W => HCM.out W false)
        have HCZ1 := Lib.hid (HCZ.out false)
        have HK := Lib.hid (HKY.out (cmpV op ek false).1 (cmpV op ek false).2.1 (cmpV op ek false).2.2.1 (cmpV op ek false).2.2.2 (by have := HCZ1.out.1; omega) (by have := HCZ1.out.2; omega))

        generalize hkv : keysV (cmpV op ek false).1 (cmpV op ek false).2.1 (cmpV op ek false).2.2.1 (cmpV op ek false).2.2.2 u d = kv at *
        obtain ⟨kl, kh⟩ := kv
        have HFIN : Hid (V = (kl, kh, true)) := Lib.hid (by rw [HRV.out, if_neg (by have := HK4.out; simp; try omega), HRB.out, if_neg (by have := HK4.out; simp; try omega), if_neg (by have := HK4.out; simp; try omega), show decide ((u : Int) = 4 ∧ 48 ≤ s.size) = false by have := HK4.out; simp; try omega, hkv, HRS.out]; exact congrArg (fun z => (kl, kh, z)) (by have := HBZ0.out; have h4 := HK4.out; simp [this]; try omega))
        clear hkv
        generalize (cmpV op ek false).1 = lo at *
        generalize (cmpV op ek false).2.1 = hi at *
        generalize (cmpV op ek false).2.2.1 = a' at *
        generalize (cmpV op ek false).2.2.2 = b' at *
        go_wp2_with fail
        refine (HCM1.out _).mono ?_
        rintro e w5 ⟨rfl, hb5⟩
        have HV5 := Lib.hid (HV4.out.below hb5 HV4.out.2.2.2)
        have HW5 := Lib.hid (HW4.out.below hb5 HW4.out.2.2.2.2.2.2.2.2)
        have HB5 := Lib.hid (HB4'.out.trans (hb5.mono HB4'.out.size)); clear hb5

        clear c0 c1 c2 cs
        obtain ⟨c0, c1, c2, cs⟩ := HV5.out
        obtain ⟨d0, d1, d2, d3, f0, f1, f2, f3, ds⟩ := HW5.out
        go_wp2_with fail
        refine (HK.out _).mono ?_
        rintro e w6 ⟨rfl, hb6⟩
        have HB6 : Hid (Below w.heap.size w w6) := Lib.hid (by
          refine Below.trans ?_ (hb6.mono ?_)
          · repeat (first | exact HB5.out | (refine Below.drew ?_) | (refine Below.setCell ?_ (by first | exact Nat.le_refl _ | (simp; done) | (simp; omega) | omega) _))
          · have := HB5.out.size; first | (simp; omega) | omega)
        have g2 : w6.cell? ⟨w.heap.size, 2, none⟩ = some (.string s) := (hb6.cell (p := ⟨w.heap.size, 2, none⟩) (by first | (simp; omega) | omega)).trans (by go_simp)
        go_wp2_with fail
        exact bodyPost_ret (v := .tuple #[.string kl, .string kh, .bool true, .int .i64 0]) (by simp [results, Tryd.results38, go_sem, hbc]) rfl (RgV.of HFIN.out HB6.out)
      · have HBZ0 := Lib.hid hbz0; clear hbz0

        go_enter Tryd.func38, Tryd.ntmps38
        go_wp2_with fail
        refine (HW.out).mono ?_
        rintro e w1 ⟨rfl, hb1⟩
        have HV1 := Lib.hid (HV.out.below hb1 HV.out.2.2.2)
        have HE1 := Lib.hid (HE.out.below hb1 (Nat.le_refl _))
        have HB2 := Lib.hid (HB1.out.trans (hb1.mono HB1.out.size)); clear hb1
        go_wp2_with fail
        refine (HI.out _).mono ?_
        rintro e w2 ⟨rfl, hb2⟩
        have HV2 := Lib.hid (HV1.out.below hb2 HV1.out.2.2.2)
        have HE2 := Lib.hid (HE1.out.below hb2 (Nat.le_refl _))
        have HB3 := Lib.hid (HB2.out.trans (hb2.mono HB2.out.size)); clear hb2
        obtain ⟨c0, c1, c2, cs⟩ := HV2.out
        have hlt : w.heap.size < w2.heap.size := cs
        have hne : ¬ (w.heap.size = w2.heap.size) := by omega
        have hne' : ¬ (w2.heap.size = w.heap.size) := by omega
        have HW2 := Lib.hid (BW.new w2 96)
        have hbz : Below w2.heap.size w2 (w2.alloc (.cells #[.string nos, .string nos, .bool false, .bool false] 96)) := (Below.refl _ _).alloc (Nat.le_refl _) _
        have HV3 := Lib.hid (HV2.out.below hbz HV2.out.2.2.2)
        have HE3 := Lib.hid (HE2.out.below hbz (Nat.le_refl _))
        have HB4 := Lib.hid (HB3.out.trans (hbz.mono HB3.out.size)); clear hbz
        go_wp2_with fail

        rw [show (⟨#[]⟩ : ByteArray) = nos from rfl]
        generalize w2.alloc (.cells #[.string nos, .string nos, .bool false, .bool false] 96) = w3 at *

        refine (HC.out _ HE3.out).mono ?_
        rintro e w4 ⟨rfl, hb4⟩
        have HV4 := Lib.hid (HV3.out.below hb4 HV3.out.2.2.2)
        have HW4 := Lib.hid (HW2.out.below hb4 HW2.out.2.2.2.2.2.2.2.2)
        have HB4' := Lib.hid (HB4.out.trans (hb4.mono HB4.out.size)); clear hb4
        clear c0 c1 c2 cs
        obtain ⟨c0, c1, c2, cs⟩ := HV4.out
        have HCM1 := Lib.hid (fun W => HCM.out W false)
        have HCZ1 := Lib.hid (HCZ.out false)
        have HK := Lib.hid (HKY.out (cmpV op ek false).1 (cmpV op ek false).2.1 (cmpV op ek false).2.2.1 (cmpV op ek false).2.2.2 (by have := HCZ1.out.1; omega) (by have := HCZ1.out.2; omega))

        generalize hkv : keysV (cmpV op ek false).1 (cmpV op ek false).2.1 (cmpV op ek false).2.2.1 (cmpV op ek false).2.2.2 u d = kv at *
        obtain ⟨kl, kh⟩ := kv
        have HFIN : Hid (V = (kl, kh, false)) := Lib.hid (by rw [HRV.out, if_neg (by have := HK4.out; simp; try omega), HRB.out, if_neg (by have := HK4.out; simp; try omega), if_neg (by have := HK4.out; simp; try omega), show decide ((u : Int) = 4 ∧ 48 ≤ s.size) = false by have := HK4.out; simp; try omega, hkv, HRS.out]; exact congrArg (fun z => (kl, kh, z)) (by have := HBZ0.out; have h4 := HK4.out; simp [this]; try omega))
        clear hkv
        generalize (cmpV op ek false).1 = lo at *
        generalize (cmpV op ek false).2.1 = hi at *
        generalize (cmpV op ek false).2.2.1 = a' at *
        generalize (cmpV op ek false).2.2.2 = b' at *
        go_wp2_with fail
        refine (HCM1.out _).mono ?_
        rintro e w5 ⟨rfl, hb5⟩
        have HV5 := Lib.hid (HV4.out.below hb5 HV4.out.2.2.2)
        have HW5 := Lib.hid (HW4.out.below hb5 HW4.out.2.2.2.2.2.2.2.2)
        have HB5 := Lib.hid (HB4'.out.trans (hb5.mono HB4'.out.size)); clear hb5

        clear c0 c1 c2 cs
        obtain ⟨c0, c1, c2, cs⟩ := HV5.out
        obtain ⟨d0, d1, d2, d3, f0, f1, f2, f3, ds⟩ := HW5.out
        go_wp2_with fail
        refine (HK.out _).mono ?_
        rintro e w6 ⟨rfl, hb6⟩
        have HB6 : Hid (Below w.heap.size w w6) := Lib.hid (by
          refine Below.trans ?_ (hb6.mono ?_)
          · repeat (first | exact HB5.out | (refine Below.drew ?_) | (refine Below.setCell ?_ (by first | exact Nat.le_refl _ | (simp; done) | (simp; omega) | omega) _))
          · have := HB5.out.size; first | (simp; omega) | omega)
        have g2 : w6.cell? ⟨w.heap.size, 2, none⟩ = some (.string s) := (hb6.cell (p := ⟨w.heap.size, 2, none⟩) (by first | (simp; omega) | omega)).trans (by go_simp)
        go_wp2_with fail
        exact bodyPost_ret (v := .tuple #[.string kl, .string kh, .bool false, .int .i64 0]) (by simp [results, Tryd.results38, go_sem, hbc]) rfl (RgV.of HFIN.out HB6.out)
    · rcases hbc with ⟨hbc, hbn, hbz0⟩ | ⟨hbc, hbn, hbz0⟩
      · have HBZ0 := Lib.hid hbz0; clear hbz0

        go_enter Tryd.func38, Tryd.ntmps38
        go_wp2_with fail
        refine (HW.out).mono ?_
        rintro e w1 ⟨rfl, hb1⟩
        have HV1 := Lib.hid (HV.out.below hb1 HV.out.2.2.2)
        have HE1 := Lib.hid (HE.out.below hb1 (Nat.le_refl _))
        have HB2 := Lib.hid (HB1.out.trans (hb1.mono HB1.out.size)); clear hb1
        go_wp2_with fail
        refine (HI.out _).mono ?_
        rintro e w2 ⟨rfl, hb2⟩
        have HV2 := Lib.hid (HV1.out.below hb2 HV1.out.2.2.2)
        have HE2 := Lib.hid (HE1.out.below hb2 (Nat.le_refl _))
        have HB3 := Lib.hid (HB2.out.trans (hb2.mono HB2.out.size)); clear hb2
        obtain ⟨c0, c1, c2, cs⟩ := HV2.out
        have hlt : w.heap.size < w2.heap.size := cs
        have hne : ¬ (w.heap.size = w2.heap.size) := by omega
        have hne' : ¬ (w2.heap.size = w.heap.size) := by omega
        have HW2 := Lib.hid (BW.new w2 96)
        have hbz : Below w2.heap.size w2 (w2.alloc (.cells #[.string nos, .string nos, .bool false, .bool false] 96)) := (Below.refl _ _).alloc (Nat.le_refl _) _
        have HV3 := Lib.hid (HV2.out.below hbz HV2.out.2.2.2)
        have HE3 := Lib.hid (HE2.out.below hbz (Nat.le_refl _))
        have HB4 := Lib.hid (HB3.out.trans (hbz.mono HB3.out.size)); clear hbz
        go_wp2_with fail

        rw [show (⟨#[]⟩ : ByteArray) = nos from rfl]
        generalize w2.alloc (.cells #[.string nos, .string nos, .bool false, .bool false] 96) = w3 at *

        refine (HC.out _ HE3.out).mono ?_
        rintro e w4 ⟨rfl, hb4⟩
        have HV4 := Lib.hid (HV3.out.below hb4 HV3.out.2.2.2)
        have HW4 := Lib.hid (HW2.out.below hb4 HW2.out.2.2.2.2.2.2.2.2)
        have HB4' := Lib.hid (HB4.out.trans (hb4.mono HB4.out.size)); clear hb4
        clear c0 c1 c2 cs
        obtain ⟨c0, c1, c2, cs⟩ := HV4.out
        have HCM1 := Lib.hid (fun W => HCM.out W false)
        have HCZ1 := Lib.hid (HCZ.out false)
        have HK := Lib.hid (HKY.out (cmpV op ek false).1 (cmpV op ek false).2.1 (cmpV op ek false).2.2.1 (cmpV op ek false).2.2.2 (by have := HCZ1.out.1; omega) (by have := HCZ1.out.2; omega))

        generalize hkv : keysV (cmpV op ek false).1 (cmpV op ek false).2.1 (cmpV op ek false).2.2.1 (cmpV op ek false).2.2.2 u d = kv at *
        obtain ⟨kl, kh⟩ := kv
        have HFIN : Hid (V = (kl, kh, true)) := Lib.hid (by rw [HRV.out, if_neg (by have := HK4.out; simp; try omega), HRB.out, if_neg (by have := HK4.out; simp; try omega), if_neg (by have := HK4.out; simp; try omega), show decide ((u : Int) = 4 ∧ 48 ≤ s.size) = false by have := HK4.out; simp; try omega, hkv, HRS.out]; exact congrArg (fun z => (kl, kh, z)) (by have := HBZ0.out; have h4 := HK4.out; simp [this]; try omega))
        clear hkv
        generalize (cmpV op ek false).1 = lo at *
        generalize (cmpV op ek false).2.1 = hi at *
        generalize (cmpV op ek false).2.2.1 = a' at *
        generalize (cmpV op ek false).2.2.2 = b' at *
        go_wp2_with fail
        refine (HCM1.out _).mono ?_
        rintro e w5 ⟨rfl, hb5⟩
        have HV5 := Lib.hid (HV4.out.below hb5 HV4.out.2.2.2)
        have HW5 := Lib.hid (HW4.out.below hb5 HW4.out.2.2.2.2.2.2.2.2)
        have HB5 := Lib.hid (HB4'.out.trans (hb5.mono HB4'.out.size)); clear hb5

        clear c0 c1 c2 cs
        obtain ⟨c0, c1, c2, cs⟩ := HV5.out
        obtain ⟨d0, d1, d2, d3, f0, f1, f2, f3, ds⟩ := HW5.out
        go_wp2_with fail
        refine (HK.out _).mono ?_
        rintro e w6 ⟨rfl, hb6⟩
        have HB6 : Hid (Below w.heap.size w w6) := Lib.hid (by
          refine Below.trans ?_ (hb6.mono ?_)
          · repeat (first | exact HB5.out | (refine Below.drew ?_) | (refine Below.setCell ?_ (by first | exact Nat.le_refl _ | (simp; done) | (simp; omega) | omega) _))
          · have := HB5.out.size; first | (simp; omega) | omega)
        have g2 : w6.cell? ⟨w.heap.size, 2, none⟩ = some (.string s) := (hb6.cell (p := ⟨w.heap.size, 2, none⟩) (by first | (simp; omega) | omega)).trans (by go_simp)
        go_wp2_with fail
        exact bodyPost_ret (v := .tuple #[.string kl, .string kh, .bool true, .int .i64 0]) (by simp [results, Tryd.results38, go_sem, hbc]) rfl (RgV.of HFIN.out HB6.out)
      · have HBZ0 := Lib.hid hbz0; clear hbz0

        go_enter Tryd.func38, Tryd.ntmps38
        go_wp2_with fail
        refine (HW.out).mono ?_
        rintro e w1 ⟨rfl, hb1⟩
        have HV1 := Lib.hid (HV.out.below hb1 HV.out.2.2.2)
        have HE1 := Lib.hid (HE.out.below hb1 (Nat.le_refl _))
        have HB2 := Lib.hid (HB1.out.trans (hb1.mono HB1.out.size)); clear hb1
        go_wp2_with fail
        refine (HI.out _).mono ?_
        rintro e w2 ⟨rfl, hb2⟩
        have HV2 := Lib.hid (HV1.out.below hb2 HV1.out.2.2.2)
        have HE2 := Lib.hid (HE1.out.below hb2 (Nat.le_refl _))
        have HB3 := Lib.hid (HB2.out.trans (hb2.mono HB2.out.size)); clear hb2
        obtain ⟨c0, c1, c2, cs⟩ := HV2.out
        have hlt : w.heap.size < w2.heap.size := cs
        have hne : ¬ (w.heap.size = w2.heap.size) := by omega
        have hne' : ¬ (w2.heap.size = w.heap.size) := by omega
        have HW2 := Lib.hid (BW.new w2 96)
        have hbz : Below w2.heap.size w2 (w2.alloc (.cells #[.string nos, .string nos, .bool false, .bool false] 96)) := (Below.refl _ _).alloc (Nat.le_refl _) _
        have HV3 := Lib.hid (HV2.out.below hbz HV2.out.2.2.2)
        have HE3 := Lib.hid (HE2.out.below hbz (Nat.le_refl _))
        have HB4 := Lib.hid (HB3.out.trans (hbz.mono HB3.out.size)); clear hbz
        go_wp2_with fail

        rw [show (⟨#[]⟩ : ByteArray) = nos from rfl]
        generalize w2.alloc (.cells #[.string nos, .string nos, .bool false, .bool false] 96) = w3 at *

        refine (HC.out _ HE3.out).mono ?_
        rintro e w4 ⟨rfl, hb4⟩
        have HV4 := Lib.hid (HV3.out.below hb4 HV3.out.2.2.2)
        have HW4 := Lib.hid (HW2.out.below hb4 HW2.out.2.2.2.2.2.2.2.2)
        have HB4' := Lib.hid (HB4.out.trans (hb4.mono HB4.out.size)); clear hb4
        clear c0 c1 c2 cs
        obtain ⟨c0, c1, c2, cs⟩ := HV4.out
        have HCM1 := Lib.hid (fun W => HCM.out W false)
        have HCZ1 := Lib.hid (HCZ.out false)
        have HK := Lib.hid (HKY.out (cmpV op ek false).1 (cmpV op ek false).2.1 (cmpV op ek false).2.2.1 (cmpV op ek false).2.2.2 (by have := HCZ1.out.1; omega) (by have := HCZ1.out.2; omega))

        generalize hkv : keysV (cmpV op ek false).1 (cmpV op ek false).2.1 (cmpV op ek false).2.2.1 (cmpV op ek false).2.2.2 u d = kv at *
        obtain ⟨kl, kh⟩ := kv
        have HFIN : Hid (V = (kl, kh, false)) := Lib.hid (by rw [HRV.out, if_neg (by have := HK4.out; simp; try omega), HRB.out, if_neg (by have := HK4.out; simp; try omega), if_neg (by have := HK4.out; simp; try omega), show decide ((u : Int) = 4 ∧ 48 ≤ s.size) = false by have := HK4.out; simp; try omega, hkv, HRS.out]; exact congrArg (fun z => (kl, kh, z)) (by have := HBZ0.out; have h4 := HK4.out; simp [this]; try omega))
        clear hkv
        generalize (cmpV op ek false).1 = lo at *
        generalize (cmpV op ek false).2.1 = hi at *
        generalize (cmpV op ek false).2.2.1 = a' at *
        generalize (cmpV op ek false).2.2.2 = b' at *
        go_wp2_with fail
        refine (HCM1.out _).mono ?_
        rintro e w5 ⟨rfl, hb5⟩
        have HV5 := Lib.hid (HV4.out.below hb5 HV4.out.2.2.2)
        have HW5 := Lib.hid (HW4.out.below hb5 HW4.out.2.2.2.2.2.2.2.2)
        have HB5 := Lib.hid (HB4'.out.trans (hb5.mono HB4'.out.size)); clear hb5

        clear c0 c1 c2 cs
        obtain ⟨c0, c1, c2, cs⟩ := HV5.out
        obtain ⟨d0, d1, d2, d3, f0, f1, f2, f3, ds⟩ := HW5.out
        go_wp2_with fail
        refine (HK.out _).mono ?_
        rintro e w6 ⟨rfl, hb6⟩
        have HB6 : Hid (Below w.heap.size w w6) := Lib.hid (by
          refine Below.trans ?_ (hb6.mono ?_)
          · repeat (first | exact HB5.out | (refine Below.drew ?_) | (refine Below.setCell ?_ (by first | exact Nat.le_refl _ | (simp; done) | (simp; omega) | omega) _))
          · have := HB5.out.size; first | (simp; omega) | omega)
        have g2 : w6.cell? ⟨w.heap.size, 2, none⟩ = some (.string s) := (hb6.cell (p := ⟨w.heap.size, 2, none⟩) (by first | (simp; omega) | omega)).trans (by go_simp)
        go_wp2_with fail
        exact bodyPost_ret (v := .tuple #[.string kl, .string kh, .bool false, .int .i64 0]) (by simp [results, Tryd.results38, go_sem, hbc]) rfl (RgV.of HFIN.out HB6.out)
end Go.Proofs.YtiddnacmopfamaaDoor
