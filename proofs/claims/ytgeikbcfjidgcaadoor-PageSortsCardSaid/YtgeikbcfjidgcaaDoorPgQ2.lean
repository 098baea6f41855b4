/- The walk of PageSorts. -/
import Derived.Test.YtgeikbcfjidgcaaDoorPgN
namespace Go.Proofs.YtgeikbcfjidgcaaDoor
open Go.RowKit
set_option linter.unusedVariables false
set_option linter.unusedSimpArgs false

theorem cmp_range : ∀ (a b : List UInt8), -1 ≤ Lib.compareBytes a b ∧ Lib.compareBytes a b ≤ 1
  | [], [] => by simp [Lib.compareBytes]
  | [], _ :: _ => by simp [Lib.compareBytes]
  | _ :: _, [] => by simp [Lib.compareBytes]
  | a :: xs, b :: ys => by
    rw [Lib.compareBytes]
    split
    · omega
    · split
      · omega
      · exact cmp_range xs ys
theorem cmp_neg : ∀ (a b : List UInt8), Lib.compareBytes b a = - Lib.compareBytes a b
  | [], [] => by simp [Lib.compareBytes]
  | [], _ :: _ => by simp [Lib.compareBytes]
  | _ :: _, [] => by simp [Lib.compareBytes]
  | a :: xs, b :: ys => by
    have ih := cmp_neg xs ys
    rw [Lib.compareBytes, Lib.compareBytes]
    simp only [UInt8.lt_iff_toNat_lt]
    by_cases h1 : a.toNat < b.toNat
    · rw [if_neg (by omega), if_pos h1, if_pos h1]; rfl
    · by_cases h2 : b.toNat < a.toNat
      · rw [if_pos h2, if_neg h1, if_pos h2]
      · rw [if_neg h2, if_neg h1, if_neg h1, if_neg h2, ih]
theorem cmp_self (a : List UInt8) : Lib.compareBytes a a = 0 := by have := cmp_neg a a; omega
theorem cmp_trans : ∀ (a b c : List UInt8), Lib.compareBytes a b ≤ 0 → Lib.compareBytes b c ≤ 0 → Lib.compareBytes a c ≤ 0
  | [], _, [], _, _ => by simp [Lib.compareBytes]
  | [], _, _ :: _, _, _ => by simp [Lib.compareBytes]
  | _ :: _, [], _, h1, _ => by simp [Lib.compareBytes] at h1
  | _ :: _, _ :: _, [], _, h2 => by simp [Lib.compareBytes] at h2
  | a :: xs, b :: ys, c :: zs, h1, h2 => by
    have ih := cmp_trans xs ys zs
    rw [Lib.compareBytes] at h1 h2 ⊢
    simp only [UInt8.lt_iff_toNat_lt] at h1 h2 ⊢
    by_cases p1 : a.toNat < b.toNat
    · by_cases p2 : c.toNat < b.toNat
      · rw [if_neg (by omega), if_pos p2] at h2; omega
      · rw [if_pos (by omega)]; omega
    · by_cases p3 : b.toNat < a.toNat
      · rw [if_neg p1, if_pos p3] at h1; omega
      · rw [if_neg p1, if_neg p3] at h1
        by_cases p4 : b.toNat < c.toNat
        · rw [if_pos (by omega)]; omega
        · by_cases p5 : c.toNat < b.toNat
          · rw [if_neg p4, if_pos p5] at h2; omega
          · rw [if_neg p4, if_neg p5] at h2
            rw [if_neg (by omega), if_neg (by omega)]
            exact ih h1 h2
theorem up_wei : ∀ (p : Fin 3) (b : Fin 256), weiN p.val 1 (upN p.val b.val) = weiN p.val 1 b.val := by decide +kernel
theorem wb_up {p : Nat} (hp : p < 3) (s : ByteArray) : wb p 1 (mapS (upN p) s) = wb p 1 s := by
  unfold wb
  rw [show (mapS (upN p) s).data.toList = s.data.toList.map (mapB (upN p)) from rfl, List.map_map]
  refine List.map_congr_left fun b _ => ?_
  show UInt8.ofNat (weiN p 1 (mapB (upN p) b).toNat) = UInt8.ofNat (weiN p 1 b.toNat)
  rw [mapB_nat (up_lt (byte_lt b) hp)]
  have := up_wei ⟨p, hp⟩ ⟨_, byte_lt b⟩
  simp only at this
  rw [this]
theorem wrong_ok2 {q d : Nat} {s t : ByteArray} (hq : q < 3) (hd : d < 2) (hs : s.size ≤ 2048) (ht : t.size ≤ 2048) : wrongN q d [s, t] = 0 := by
  unfold wrongN
  rw [if_neg (by simp; omega), if_pos ⟨by omega, by omega, by omega⟩]
theorem ord_eq {q d : Nat} {s t : ByteArray} (hq : q < 3) (hd : d < 2) (hs : s.size ≤ 2048) (ht : t.size ≤ 2048) : ordI s t q d = Lib.compareBytes (wb q d s) (wb q d t) := by
  simp [ordI, wrong_ok2 hq hd hs ht]

/-- Three texts in a box. -/
def Sx (w : World) (n : Nat) (s t u : ByteArray) : Prop := w.cell? ⟨n, 0, none⟩ = some (.string s) ∧ w.cell? ⟨n, 1, none⟩ = some (.string t) ∧ w.cell? ⟨n, 2, none⟩ = some (.string u) ∧ n < w.heap.size
theorem Sx.below {w w' : World} {n B : Nat} {s t u : ByteArray} (h : Sx w n s t u) (hb : Below B w w') (hB : w.heap.size ≤ B) : Sx w' n s t u :=
  have hn := Nat.lt_of_lt_of_le h.2.2.2 hB
  ⟨by rw [hb.cell (p := ⟨n, 0, none⟩) hn]; exact h.1, by rw [hb.cell (p := ⟨n, 1, none⟩) hn]; exact h.2.1, by rw [hb.cell (p := ⟨n, 2, none⟩) hn]; exact h.2.2.1, Nat.lt_of_lt_of_le h.2.2.2 hb.size⟩
theorem Sx.new (w : World) (s t u : ByteArray) (y : TypeId) : Sx (w.alloc (.cells #[.string s, .string t, .string u] y)) w.heap.size s t u := ⟨by simp, by simp, by simp, by simp⟩

set_option maxHeartbeats 40000000 in
set_option maxRecDepth 40000 in
theorem pageSorts_any (s t u : ByteArray) (a b : Int) (w : World) (ht : Tabs w) (hs : s.size ≤ maxLen) (hs' : t.size ≤ maxLen) (hs'' : u.size ≤ maxLen) :
    Calls Tryd.prog 9 #[.agg #[.string s, .string t, .string u], .agg #[.int .i64 a, .int .i64 b]] w fun e w' => e = .returned (.bool true) ∧ Below w.heap.size w w' := by
  have HT := Lib.hid ht; clear ht
  have HTW := Lib.hid HT.out
  go_enter Tryd.func9, Tryd.ntmps9
  go_wp2_with fail
  have hb0 := two_below w (.cells #[.string s, .string t, .string u] 40) (.cells #[.int .i64 a, .int .i64 b] 30)
  have SX0 : Hid (Sx ((w.alloc (.cells #[.string s, .string t, .string u] 40)).alloc (.cells #[.int .i64 a, .int .i64 b] 30)) w.heap.size s t u) := Lib.hid ((Sx.new w s t u _).below ((Below.refl _ _).alloc (Nat.le_refl _) _) (Nat.le_refl _))
  have BX0 : Hid (Bx ((w.alloc (.cells #[.string s, .string t, .string u] 40)).alloc (.cells #[.int .i64 a, .int .i64 b] 30)) (w.heap.size + 1) a b) := Lib.hid (by
    have h := Bx.new (w.alloc (.cells #[.string s, .string t, .string u] 40)) a b 30
    rwa [show (w.alloc (.cells #[.string s, .string t, .string u] 40)).heap.size = w.heap.size + 1 by simp] at h)
  have HT0 := Lib.hid (HT.out.below hb0 (Nat.le_refl _))
  have HB0 := Lib.hid hb0; clear hb0
  generalize (w.alloc (.cells #[.string s, .string t, .string u] 40)).alloc (.cells #[.int .i64 a, .int .i64 b] 30) = w0 at *
  obtain ⟨c0, c1, _⟩ := BX0.out
  obtain ⟨d0, d1, d2, _⟩ := SX0.out
  have m1 : (s.size : Int) ≤ 9223372036854775807 := by unfold maxLen at hs; omega
  have m2 : (t.size : Int) ≤ 9223372036854775807 := by unfold maxLen at hs'; omega
  have m3 : (u.size : Int) ≤ 9223372036854775807 := by unfold maxLen at hs''; omega
  go_loop [5] (fun i => ∃ k : Nat, k ≤ 3 ∧ i = .int .i64 k ∧ (0 < k → s.size ≤ 2048) ∧ (1 < k → t.size ≤ 2048) ∧ (2 < k → u.size ≤ 2048)) (fun i => 3 - (intOf i).toNat)
  case atStart => exact ⟨0, by omega, rfl, fun h => by omega, fun h => by omega, fun h => by omega⟩
  case round =>
    obtain ⟨k, hk, rfl, f1, f2, f3⟩ := hrel
    rcases (show k = 0 ∨ k = 1 ∨ k = 2 ∨ k = 3 by omega) with rfl | rfl | rfl | rfl
    · skip
      by_cases hbig : 2048 < s.size
      · have g1 : (2048 : Int) < s.size := by omega
        go_wp2_with fail
        refine (known_any _ HT0.out).mono ?_
        rintro e w9 ⟨rfl, hb9⟩
        have HB9 := Lib.hid (HB0.out.trans (hb9.mono HB0.out.size)); clear hb9
        go_wp2_with fail
        go_ret
        exact ⟨rfl, HB9.out⟩
      · have g1 : ¬ (2048 : Int) < s.size := by omega
        go_wp2_with fail
        exact ⟨⟨0 + 1, by omega, rfl, fun _ => by omega, fun h => by omega, fun h => by omega⟩, by simp [intOf]⟩
    · skip
      by_cases hbig : 2048 < t.size
      · have g1 : (2048 : Int) < t.size := by omega
        go_wp2_with fail
        refine (known_any _ HT0.out).mono ?_
        rintro e w9 ⟨rfl, hb9⟩
        have HB9 := Lib.hid (HB0.out.trans (hb9.mono HB0.out.size)); clear hb9
        go_wp2_with fail
        go_ret
        exact ⟨rfl, HB9.out⟩
      · have g1 : ¬ (2048 : Int) < t.size := by omega
        go_wp2_with fail
        exact ⟨⟨1 + 1, by omega, rfl, fun _ => f1 (by omega), fun h => by omega, fun h => by omega⟩, by simp [intOf]⟩
    · skip
      by_cases hbig : 2048 < u.size
      · have g1 : (2048 : Int) < u.size := by omega
        go_wp2_with fail
        refine (known_any _ HT0.out).mono ?_
        rintro e w9 ⟨rfl, hb9⟩
        have HB9 := Lib.hid (HB0.out.trans (hb9.mono HB0.out.size)); clear hb9
        go_wp2_with fail
        go_ret
        exact ⟨rfl, HB9.out⟩
      · have g1 : ¬ (2048 : Int) < u.size := by omega
        go_wp2_with fail
        exact ⟨⟨2 + 1, by omega, rfl, fun _ => f1 (by omega), fun h => f2 (by omega), fun h => by omega⟩, by simp [intOf]⟩
    · have z1 := f1 (by omega)
      have z2 := f2 (by omega)
      have z3 := f3 (by omega)
      clear f1 f2 f3
      by_cases hbad : a < 0 ∨ 2 < a ∨ b < 0 ∨ 1 < b
      · rcases (show a < 0 ∨ (¬ a < 0 ∧ 2 < a) ∨ (¬ a < 0 ∧ ¬ 2 < a ∧ b < 0) ∨ (¬ a < 0 ∧ ¬ 2 < a ∧ ¬ b < 0 ∧ 1 < b) by omega) with q1 | ⟨q1, q2⟩ | ⟨q1, q2, q3⟩ | ⟨q1, q2, q3, q4⟩
        all_goals
          clear hbad
          go_wp2_with fail
          refine (known_any _ HT0.out).mono ?_
          rintro e w9 ⟨rfl, hb9⟩
          have HB9 := Lib.hid (HB0.out.trans (hb9.mono HB0.out.size)); clear hb9
          go_wp2_with fail
          go_ret
          exact ⟨rfl, HB9.out⟩
      · obtain ⟨q, rfl⟩ : ∃ q : Nat, a = q := ⟨a.toNat, by omega⟩
        obtain ⟨d, rfl⟩ : ∃ d : Nat, b = d := ⟨b.toNat, by omega⟩
        have hq : q < 3 := by omega
        have hd : d < 2 := by omega
        have y1 : (upT s q).size ≤ 2048 := by simp only [upT, wrong_ok hq z1, if_pos, Int.toNat_natCast]; rw [mapS_size]; exact z1
        have C1 := Lib.hid (fun W h => Order_any s t q d W h hs hs')
        have C2 := Lib.hid (fun W h => Order_any t s q d W h hs' hs)
        have C3 := Lib.hid (fun W h => Order_any t u q d W h hs' hs'')
        have C4 := Lib.hid (fun W h => Order_any s u q d W h hs hs'')
        have C5 := Lib.hid (fun W h => Upper_any s q W h hs)
        have C6 := Lib.hid (fun W h => Order_any s (upT s q) q d W h hs (by unfold maxLen; omega))
        rw [ord_eq hq hd z1 z2, wrong_ok2 hq hd z1 z2] at C1
        rw [ord_eq hq hd z2 z1, wrong_ok2 hq hd z2 z1, cmp_neg] at C2
        rw [ord_eq hq hd z2 z3, wrong_ok2 hq hd z2 z3] at C3
        rw [ord_eq hq hd z1 z3, wrong_ok2 hq hd z1 z3] at C4
        rw [wrong_ok hq z1] at C5
        have hE : d = 0 ∨ ordI s (upT s q) q d = 0 := by
          rcases (show d = 0 ∨ d = 1 by omega) with h | h
          · exact .inl h
          · refine .inr ?_
            subst h
            rw [ord_eq hq hd z1 y1, show upT s q = mapS (upN q) s by simp [upT, wrong_ok hq z1], wb_up hq, cmp_self]
        rw [wrong_ok2 hq hd z1 y1] at C6
        generalize ordI s (upT s q) q d = eo at *
        have r1 := cmp_range (wb q d s) (wb q d t)
        have tr1 := cmp_trans (wb q d s) (wb q d t) (wb q d u)
        have tr2 : 0 ≤ Lib.compareBytes (wb q d s) (wb q d t) → 0 ≤ Lib.compareBytes (wb q d t) (wb q d u) → 0 ≤ Lib.compareBytes (wb q d s) (wb q d u) := by
          have h := cmp_trans (wb q d u) (wb q d t) (wb q d s)
          rw [cmp_neg (wb q d t) (wb q d u), cmp_neg (wb q d s) (wb q d t), cmp_neg (wb q d s) (wb q d u)] at h
          omega
        have r2 := cmp_range (wb q d t) (wb q d u)
        have r3 := cmp_range (wb q d s) (wb q d u)
        generalize Lib.compareBytes (wb q d s) (wb q d t) = x at *
        generalize Lib.compareBytes (wb q d t) (wb q d u) = y at *
        generalize Lib.compareBytes (wb q d s) (wb q d u) = z at *
        generalize upT s q = us at *
        have p1 : ¬ (q : Int) < 0 := by omega
        have p2 : ¬ (2 : Int) < q := by omega
        have p3 : ¬ (d : Int) < 0 := by omega
        have p4 : ¬ (1 : Int) < d := by omega
        clear hbad
        go_wp2_with fail
        refine (C1.out _ HT0.out).mono ?_
        rintro e x1 ⟨rfl, hb1⟩
        have HT1 := Lib.hid (HT0.out.below hb1 (Nat.le_refl _))
        have BX1 := Lib.hid (BX0.out.below hb1 (Nat.le_refl _))
        have SX1 := Lib.hid (SX0.out.below hb1 (Nat.le_refl _))
        have HB1 := Lib.hid (HB0.out.trans (hb1.mono HB0.out.size)); clear hb1 c0 c1 d0 d1 d2
        obtain ⟨c0, c1, _⟩ := BX1.out
        obtain ⟨d0, d1, d2, _⟩ := SX1.out
        go_wp2_with fail
        refine (C2.out _ HT1.out).mono ?_
        rintro e x2 ⟨rfl, hb2⟩
        have HT2 := Lib.hid (HT1.out.below hb2 (Nat.le_refl _))
        have BX2 := Lib.hid (BX1.out.below hb2 (Nat.le_refl _))
        have SX2 := Lib.hid (SX1.out.below hb2 (Nat.le_refl _))
        have HB2 := Lib.hid (HB1.out.trans (hb2.mono HB1.out.size)); clear hb2 c0 c1 d0 d1 d2
        obtain ⟨c0, c1, _⟩ := BX2.out
        obtain ⟨d0, d1, d2, _⟩ := SX2.out
        go_wp2_with fail
        refine (C3.out _ HT2.out).mono ?_
        rintro e x3 ⟨rfl, hb3⟩
        have HT3 := Lib.hid (HT2.out.below hb3 (Nat.le_refl _))
        have BX3 := Lib.hid (BX2.out.below hb3 (Nat.le_refl _))
        have SX3 := Lib.hid (SX2.out.below hb3 (Nat.le_refl _))
        have HB3 := Lib.hid (HB2.out.trans (hb3.mono HB2.out.size)); clear hb3 c0 c1 d0 d1 d2
        obtain ⟨c0, c1, _⟩ := BX3.out
        obtain ⟨d0, d1, d2, _⟩ := SX3.out
        go_wp2_with fail
        refine (C4.out _ HT3.out).mono ?_
        rintro e x4 ⟨rfl, hb4⟩
        have HT4 := Lib.hid (HT3.out.below hb4 (Nat.le_refl _))
        have BX4 := Lib.hid (BX3.out.below hb4 (Nat.le_refl _))
        have SX4 := Lib.hid (SX3.out.below hb4 (Nat.le_refl _))
        have HB4 := Lib.hid (HB3.out.trans (hb4.mono HB3.out.size)); clear hb4 c0 c1 d0 d1 d2
        obtain ⟨c0, c1, _⟩ := BX4.out
        obtain ⟨d0, d1, d2, _⟩ := SX4.out
        have w1' : -1 ≤ x := r1.1
        have w2' : x ≤ 1 := r1.2
        have HE := Lib.hid hE; clear hE
        rcases (show (x < 0 ∧ ¬ 0 ≤ x ∧ x ≤ 0) ∨ (x = 0) ∨ (0 < x ∧ 0 ≤ x ∧ ¬ x ≤ 0) by omega) with ⟨k1, k2, k3⟩ | k1 | ⟨k1, k2, k3⟩
        all_goals rcases (show (y < 0 ∧ ¬ 0 ≤ y ∧ y ≤ 0) ∨ (y = 0) ∨ (0 < y ∧ 0 ≤ y ∧ ¬ y ≤ 0) by omega) with ⟨j1, j2, j3⟩ | j1 | ⟨j1, j2, j3⟩
        all_goals
          try subst k1
          try subst j1
          try have l1 : ¬ 0 < z := by omega
          try have l2 : ¬ z < 0 := by omega
          clear tr1 tr2 r1 r2 r3
          go_wp2_with fail
          refine (C5.out _ HT4.out).mono ?_
          rintro e x5 ⟨rfl, hb5⟩
          have HT5 := Lib.hid (HT4.out.below hb5 (Nat.le_refl _))
          have BX5 := Lib.hid (BX4.out.below hb5 (Nat.le_refl _))
          have SX5 := Lib.hid (SX4.out.below hb5 (Nat.le_refl _))
          have HB5 := Lib.hid (HB4.out.trans (hb5.mono HB4.out.size)); clear hb5 c0 c1 d0 d1 d2
          obtain ⟨c0, c1, _⟩ := BX5.out
          obtain ⟨d0, d1, d2, _⟩ := SX5.out
          go_wp2_with fail
          refine (C6.out _ HT5.out).mono ?_
          rintro e x6 ⟨rfl, hb6⟩
          have HT6 := Lib.hid (HT5.out.below hb6 (Nat.le_refl _))
          have BX6 := Lib.hid (BX5.out.below hb6 (Nat.le_refl _))
          have HB6 := Lib.hid (HB5.out.trans (hb6.mono HB5.out.size)); clear hb6 c0 c1 d0 d1 d2
          obtain ⟨c0, c1, _⟩ := BX6.out
          by_cases hd0 : d = 0
          · have gd : ((d : Int) == 0) = true := by simp [hd0]
            clear hd0
            go_wp2_with fail
            refine (known_any _ HT6.out).mono ?_
            rintro e x7 ⟨rfl, hb7⟩
            have HB7 := Lib.hid (HB6.out.trans (hb7.mono HB6.out.size)); clear hb7
            go_wp2_with fail
            go_ret
            exact ⟨rfl, HB7.out⟩
          · have gd : ((d : Int) == 0) = false := by simp [hd0]
            obtain rfl : eo = 0 := by
              rcases HE.out with h | h
              · exact absurd h hd0
              · exact h
            clear hd0
            go_wp2_with fail
            refine (known_any _ HT6.out).mono ?_
            rintro e x7 ⟨rfl, hb7⟩
            have HB7 := Lib.hid (HB6.out.trans (hb7.mono HB6.out.size)); clear hb7
            go_wp2_with fail
            go_ret
            exact ⟨rfl, HB7.out⟩
end Go.Proofs.YtgeikbcfjidgcaaDoor
