/- The walk of PageLikes. -/
import Derived.Test.YtgeikbcfjidgcaaDoorPgK3
import Derived.Test.YtgeikbcfjidgcaaDoorPgN
namespace Go.Proofs.YtgeikbcfjidgcaaDoor
open Go.RowKit
set_option linter.unusedVariables false
set_option linter.unusedSimpArgs false

set_option maxHeartbeats 4000000 in
set_option maxRecDepth 40000 in
theorem pageLikes_any (s t : ByteArray) (a b : Int) (w : World) (ht : Tabs w) (hs : s.size ≤ maxLen) (hs' : t.size ≤ maxLen) :
    Calls Tryd.prog 10 #[.string s, .string t, .agg #[.int .i64 a, .int .i64 b]] w fun e w' => e = .returned (.bool true) ∧ Below w.heap.size w w' := by
  have HT := Lib.hid ht; clear ht
  have C0 := Lib.hid (over_any s hs)
  have C00 := Lib.hid (over_any t hs')
  go_enter Tryd.func10, Tryd.ntmps10
  go_wp2_with fail
  refine (C0.out _).mono ?_
  rintro e w1 ⟨rfl, rfl⟩
  have hb0 : Below w.heap.size w (w.alloc (.cells #[.int .i64 a, .int .i64 b] 30)) := (Below.refl _ _).alloc (Nat.le_refl _) _
  have BX0 := Lib.hid (Bx.new w a b 30)
  have HT0 := Lib.hid (HT.out.below hb0 (Nat.le_refl _))
  have HB0 := Lib.hid hb0; clear hb0
  generalize w.alloc (.cells #[.int .i64 a, .int .i64 b] 30) = w0 at *
  cases ho : decide (16384 < s.size)
  · clear ho
    go_wp2_with fail
    refine (C00.out _).mono ?_
    rintro e w1 ⟨rfl, rfl⟩
    cases ho2 : decide (16384 < t.size)
    · clear ho2
      obtain ⟨r, hr⟩ := like_has s t a b
      have C3 := Lib.hid (fun W h => Like_any s t a b r hr W h hs hs')
      have C4 := Lib.hid (fun W => refLike_any s t a b r hr W hs hs')
      clear hr
      generalize wrongN a b [s, t] = e2 at *
      obtain ⟨c0, c1, _⟩ := BX0.out
      go_wp2_with fail
      refine (C3.out _ HT0.out).mono ?_
      rintro e x3 ⟨rfl, hb3⟩
      have HT3 := Lib.hid (HT0.out.below hb3 (Nat.le_refl _))
      have BX3 := Lib.hid (BX0.out.below hb3 (Nat.le_refl _))
      have HB3 := Lib.hid (HB0.out.trans (hb3.mono HB0.out.size)); clear hb3 c0 c1
      obtain ⟨c0, c1, _⟩ := BX3.out
      go_wp2_with fail
      refine (C4.out _).mono ?_
      rintro e x4 ⟨rfl, hb4⟩
      have HT4 := Lib.hid (HT3.out.below hb4 (Nat.le_refl _))
      have HB4 := Lib.hid (HB3.out.trans (hb4.mono HB3.out.size)); clear hb4 c0 c1
      go_wp2_with fail
      refine (known_any _ HT4.out).mono ?_
      rintro e x5 ⟨rfl, hb5⟩
      have HB5 := Lib.hid (HB4.out.trans (hb5.mono HB4.out.size)); clear hb5
      go_wp2_with fail
      go_ret
      exact ⟨rfl, HB5.out⟩
    · clear ho2
      go_wp2_with fail
      refine (known_any _ HT0.out).mono ?_
      rintro e w3 ⟨rfl, hb3⟩
      have HB3 := Lib.hid (HB0.out.trans (hb3.mono HB0.out.size)); clear hb3
      go_wp2_with fail
      go_ret
      exact ⟨rfl, HB3.out⟩
  · clear ho
    go_wp2_with fail
    refine (known_any _ HT0.out).mono ?_
    rintro e w3 ⟨rfl, hb3⟩
    have HB3 := Lib.hid (HB0.out.trans (hb3.mono HB0.out.size)); clear hb3
    go_wp2_with fail
    go_ret
    exact ⟨rfl, HB3.out⟩
end Go.Proofs.YtgeikbcfjidgcaaDoor
