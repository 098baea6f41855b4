/- The walk of PageOrders. -/
import Derived.Test.YtgeikbcfjidgcaaDoorPgJ
namespace Go.Proofs.YtgeikbcfjidgcaaDoor
open Go.RowKit
set_option linter.unusedVariables false
set_option linter.unusedSimpArgs false

/-- Two numbers in a box. -/
def Bx (w : World) (n : Nat) (a b : Int) : Prop := w.cell? ⟨n, 0, none⟩ = some (.int .i64 a) ∧ w.cell? ⟨n, 1, none⟩ = some (.int .i64 b) ∧ n < w.heap.size
theorem Bx.below {w w' : World} {n B : Nat} {a b : Int} (h : Bx w n a b) (hb : Below B w w') (hB : w.heap.size ≤ B) : Bx w' n a b :=
  ⟨by rw [hb.cell (p := ⟨n, 0, none⟩) (Nat.lt_of_lt_of_le h.2.2 hB)]; exact h.1, by rw [hb.cell (p := ⟨n, 1, none⟩) (Nat.lt_of_lt_of_le h.2.2 hB)]; exact h.2.1, Nat.lt_of_lt_of_le h.2.2 hb.size⟩
theorem Bx.new (w : World) (a b : Int) (t : TypeId) : Bx (w.alloc (.cells #[.int .i64 a, .int .i64 b] t)) w.heap.size a b := ⟨by simp, by simp, by simp⟩

set_option maxHeartbeats 4000000 in
set_option maxRecDepth 40000 in
theorem pageOrders_any (s t : ByteArray) (a b : Int) (w : World) (ht : Tabs w) (hs : s.size ≤ maxLen) (hs' : t.size ≤ maxLen) :
    Calls Tryd.prog 8 #[.string s, .string t, .agg #[.int .i64 a, .int .i64 b]] w fun e w' => e = .returned (.bool true) ∧ Below w.heap.size w w' := by
  have HT := Lib.hid ht; clear ht
  have C0 := Lib.hid (over_any s hs)
  have C00 := Lib.hid (over_any t hs')
  go_enter Tryd.func8, Tryd.ntmps8
  go_wp2_with fail
  refine (C0.out _).mono ?_
  rintro e w1 ⟨rfl, rfl⟩
  have hb0 : Below w.heap.size w (w.alloc (.cells #[.int .i64 a, .int .i64 b] 30)) := (Below.refl _ _).alloc (Nat.le_refl _) _
  have BX0 := Lib.hid (Bx.new w a b 30)
  have HT0 := Lib.hid (HT.out.below hb0 (Nat.le_refl _))
  have HB0 := Lib.hid hb0; clear hb0
  generalize w.alloc (.cells #[.int .i64 a, .int .i64 b] 30) = w0 at *
  cases ho : decide (16384 < s.size)
  · clear ho
    go_wp2_with fail
    refine (C00.out _).mono ?_
    rintro e w1 ⟨rfl, rfl⟩
    cases ho2 : decide (16384 < t.size)
    · clear ho2
      have C1 := Lib.hid (fun W h => Weights_any s a b W h hs)
      have C2 := Lib.hid (fun W => refWeightsT_any s a b W hs)
      have C3 := Lib.hid (fun W h => Order_any s t a b W h hs hs')
      have C4 := Lib.hid (fun W => refOrder_any s t a b W hs hs')
      generalize weiT s a b = x at *
      generalize wrongN a b [s] = e1 at *
      generalize ordI s t a b = o at *
      generalize wrongN a b [s, t] = e2 at *
      obtain ⟨c0, c1, _⟩ := BX0.out
      go_wp2_with fail
      refine (C1.out _ HT0.out).mono ?_
      rintro e x1 ⟨rfl, hb1⟩
      have HT1 := Lib.hid (HT0.out.below hb1 (Nat.le_refl _))
      have BX1 := Lib.hid (BX0.out.below hb1 (Nat.le_refl _))
      have HB1 := Lib.hid (HB0.out.trans (hb1.mono HB0.out.size)); clear hb1 c0 c1
      obtain ⟨c0, c1, _⟩ := BX1.out
      go_wp2_with fail
      refine (C2.out _).mono ?_
      rintro e x2 ⟨rfl, hb2⟩
      have HT2 := Lib.hid (HT1.out.below hb2 (Nat.le_refl _))
      have BX2 := Lib.hid (BX1.out.below hb2 (Nat.le_refl _))
      have HB2 := Lib.hid (HB1.out.trans (hb2.mono HB1.out.size)); clear hb2 c0 c1
      obtain ⟨c0, c1, _⟩ := BX2.out
      go_wp2_with fail
      refine (C3.out _ HT2.out).mono ?_
      rintro e x3 ⟨rfl, hb3⟩
      have HT3 := Lib.hid (HT2.out.below hb3 (Nat.le_refl _))
      have BX3 := Lib.hid (BX2.out.below hb3 (Nat.le_refl _))
      have HB3 := Lib.hid (HB2.out.trans (hb3.mono HB2.out.size)); clear hb3 c0 c1
      obtain ⟨c0, c1, _⟩ := BX3.out
      go_wp2_with fail
      refine (C4.out _).mono ?_
      rintro e x4 ⟨rfl, hb4⟩
      have HT4 := Lib.hid (HT3.out.below hb4 (Nat.le_refl _))
      have HB4 := Lib.hid (HB3.out.trans (hb4.mono HB3.out.size)); clear hb4 c0 c1
      go_wp2_with fail
      refine (known_any _ HT4.out).mono ?_
      rintro e x5 ⟨rfl, hb5⟩
      have HB5 := Lib.hid (HB4.out.trans (hb5.mono HB4.out.size)); clear hb5
      go_wp2_with fail
      go_ret
      exact ⟨rfl, HB5.out⟩
    · clear ho2
      go_wp2_with fail
      refine (known_any _ HT0.out).mono ?_
      rintro e w3 ⟨rfl, hb3⟩
      have HB3 := Lib.hid (HB0.out.trans (hb3.mono HB0.out.size)); clear hb3
      go_wp2_with fail
      go_ret
      exact ⟨rfl, HB3.out⟩
  · clear ho
    go_wp2_with fail
    refine (known_any _ HT0.out).mono ?_
    rintro e w3 ⟨rfl, hb3⟩
    have HB3 := Lib.hid (HB0.out.trans (hb3.mono HB0.out.size)); clear hb3
    go_wp2_with fail
    go_ret
    exact ⟨rfl, HB3.out⟩
end Go.Proofs.YtgeikbcfjidgcaaDoor
