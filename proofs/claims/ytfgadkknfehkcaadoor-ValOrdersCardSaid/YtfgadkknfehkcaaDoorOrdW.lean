/- The walk of ValOrders. -/
import Derived.Test.YtfgadkknfehkcaaDoorOrdM
namespace Go.Proofs.YtfgadkknfehkcaaDoor
open Go.RowKit
set_option linter.unusedVariables false

set_option maxHeartbeats 2000000 in
/-- The walk, its calls by what they answer. -/
theorem orders_walk (k1 n1 : Int) (s1 : ByteArray) (k2 n2 : Int) (s2 : ByteArray) (k3 n3 : Int) (s3 : ByteArray) (x e y f z g v h : Int) (W : World) (ht : Tab W)
    (t1 : decide (20000 < wrap64 (wrap64 ((s1.size : Int) + s2.size) + s3.size)) = false)
    (c1 : ∀ w, Calls Tryd.prog 21 #[vv k1 n1 s1, vv k2 n2 s2] w fun E w' => E = .returned (.tuple #[.int .i64 x, .int .i64 e]) ∧ Below w.heap.size w w')
    (c2 : ∀ w, Calls Tryd.prog 21 #[vv k2 n2 s2, vv k1 n1 s1] w fun E w' => E = .returned (.tuple #[.int .i64 y, .int .i64 f]) ∧ Below w.heap.size w w')
    (c3 : ∀ w, Calls Tryd.prog 21 #[vv k2 n2 s2, vv k3 n3 s3] w fun E w' => E = .returned (.tuple #[.int .i64 z, .int .i64 g]) ∧ Below w.heap.size w w')
    (c4 : ∀ w, Calls Tryd.prog 21 #[vv k1 n1 s1, vv k3 n3 s3] w fun E w' => E = .returned (.tuple #[.int .i64 v, .int .i64 h]) ∧ Below w.heap.size w w')
    (hfe : (f == 0) = (e == 0)) (hy : IntKind.i64.wrap (-y) = -y) (hxy : (e == 0) = true → (x != -y) = false)
    (hh : (e == 0) = true → (g == 0) = true → (h != 0) = false ∧ (decide (x ≤ 0) = true → decide (z ≤ 0) = true → decide (0 < v) = false)) :
    Calls Tryd.prog 5 #[vv k1 n1 s1, vv k2 n2 s2, vv k3 n3 s3] W fun E w' => E = .returned (.bool true) ∧ Below W.heap.size W w' := by
  have hp := ht.pos
  have HT := Lib.hid ht; clear ht
  have C1 := Lib.hid c1; clear c1
  have C2 := Lib.hid c2; clear c2
  have C3 := Lib.hid c3; clear c3
  have C4 := Lib.hid c4; clear c4
  have HFE := Lib.hid hfe; clear hfe
  have HXY := Lib.hid hxy; clear hxy
  have HH := Lib.hid hh; clear hh
  go_enter Tryd.func5, Tryd.ntmps5
  go_wp2_with fail
  refine (C1.out _).mono ?_
  rintro E w1 ⟨rfl, hb1⟩
  obtain ⟨hc1, hf1⟩ := bcell hb1
  have a1 : W.heap.size < w1.heap.size := by have := hb1.size; simp at *; omega
  have b1 : W.heap.size + 1 < w1.heap.size := by have := hb1.size; simp at *; omega
  have d1 : W.heap.size + 1 + 1 < w1.heap.size := by have := hb1.size; simp at *; omega
  have hB1 : Below W.heap.size W w1 := ((((Below.refl _ _).alloc (Nat.le_refl _) _).alloc (by simp) _).alloc (by simp; omega) _).trans (hb1.mono (by simp; omega))
  go_wp2_with fail
  refine (C2.out _).mono ?_
  rintro E w2 ⟨rfl, hb2⟩
  obtain ⟨hc2, hf2⟩ := bcell hb2
  have hs2 := hb2.size
  have a2 : W.heap.size < w2.heap.size := by omega
  have b2 : W.heap.size + 1 < w2.heap.size := by omega
  have d2 : W.heap.size + 1 + 1 < w2.heap.size := by omega
  have hB2 : Below W.heap.size W w2 := hB1.trans (hb2.mono (by omega))
  clear hs2
  go_wp2_with fail
  refine (C3.out _).mono ?_
  rintro E w3 ⟨rfl, hb3⟩
  obtain ⟨hc3, hf3⟩ := bcell hb3
  have hs3 := hb3.size
  have a3 : W.heap.size < w3.heap.size := by omega
  have b3 : W.heap.size + 1 < w3.heap.size := by omega
  have d3 : W.heap.size + 1 + 1 < w3.heap.size := by omega
  have hB3 : Below W.heap.size W w3 := hB2.trans (hb3.mono (by omega))
  clear hs3
  go_wp2_with fail
  refine (C4.out _).mono ?_
  rintro E w4 ⟨rfl, hb4⟩
  have hs4 := hb4.size
  have a4 : W.heap.size < w4.heap.size := by omega
  have hB4 : Below W.heap.size W w4 := hB3.trans (hb4.mono (by omega))
  have HK := Lib.hid (HT.out.below hB4 hp)
  clear hs4 hb1 hb2 hb3 hb4 hc1 hc2 hc3 hf1 hf2 hf3
  have HFE' := HFE.out
  cases he : e == 0
  · rw [he] at HFE'
    go_wp2_with fail
    refine (known_any _ HK.out).mono ?_
    rintro E w5 ⟨rfl, hb5⟩
    go_wp2_with fail
    go_ret
    exact ⟨rfl, hB4.trans (hb5.mono (by omega))⟩
  · rw [he] at HFE'
    have hxy := HXY.out he
    cases hg : g == 0
    · go_wp2_with fail
      refine (known_any _ HK.out).mono ?_
      rintro E w5 ⟨rfl, hb5⟩
      go_wp2_with fail
      go_ret
      exact ⟨rfl, hB4.trans (hb5.mono (by omega))⟩
    · obtain ⟨hh0, hle⟩ := HH.out he hg
      cases hx : decide (x ≤ 0)
      · clear hle
        go_wp2_with fail
        refine (known_any _ HK.out).mono ?_
        rintro E w5 ⟨rfl, hb5⟩
        go_wp2_with fail
        go_ret
        exact ⟨rfl, hB4.trans (hb5.mono (by omega))⟩
      · cases hz : decide (z ≤ 0)
        · clear hle
          go_wp2_with fail
          refine (known_any _ HK.out).mono ?_
          rintro E w5 ⟨rfl, hb5⟩
          go_wp2_with fail
          go_ret
          exact ⟨rfl, hB4.trans (hb5.mono (by omega))⟩
        · have hv := hle hx hz
          clear hle
          go_wp2_with fail
          refine (known_any _ HK.out).mono ?_
          rintro E w5 ⟨rfl, hb5⟩
          go_wp2_with fail
          go_ret
          exact ⟨rfl, hB4.trans (hb5.mono (by omega))⟩

set_option maxHeartbeats 1000000 in
theorem orders_any (k1 n1 : Int) (s1 : ByteArray) (k2 n2 : Int) (s2 : ByteArray) (k3 n3 : Int) (s3 : ByteArray) (W : World) (ht : Tab W) (h1 : s1.size ≤ maxLen) (h2 : s2.size ≤ maxLen) (h3 : s3.size ≤ maxLen) :
    Calls Tryd.prog 5 #[vv k1 n1 s1, vv k2 n2 s2, vv k3 n3 s3] W fun E w' => E = .returned (.bool true) ∧ Below W.heap.size W w' := by
  cases t1 : decide (20000 < wrap64 (wrap64 ((s1.size : Int) + s2.size) + s3.size))
  · have f1 := cmpR_bd k2 n2 s2 k1 n1 s1
    refine orders_walk k1 n1 s1 k2 n2 s2 k3 n3 s3 _ _ _ _ _ _ _ _ W ht t1 (fun w => Compare_any _ _ _ _ _ _ w h1 h2) (fun w => Compare_any _ _ _ _ _ _ w h2 h1) (fun w => Compare_any _ _ _ _ _ _ w h2 h3) (fun w => Compare_any _ _ _ _ _ _ w h1 h3)
      (cmpE_flip _ _ _ _ _ _) (IntWalk.i64_in _ (by omega)) (fun he => ?_) (fun he hg => ?_)
    · have e0 : cmpE k1 n1 s1 k2 n2 s2 = 0 := by simpa using he
      have := cmpR_flip _ _ _ _ _ _ e0
      rw [this]; simp
    · have e0 : cmpE k1 n1 s1 k2 n2 s2 = 0 := by simpa using he
      have g0 : cmpE k2 n2 s2 k3 n3 s3 = 0 := by simpa using hg
      obtain ⟨q1, q2⟩ := cmp_trans _ _ _ _ _ _ _ _ _ e0 g0
      refine ⟨by rw [q1]; rfl, fun p1 p2 => ?_⟩
      have := q2 (by simpa using p1) (by simpa using p2)
      simpa using this
  · have hp := ht.pos
    have hba : Below W.heap.size W (((W.alloc (.cells #[.int .i64 k1, .int .i64 n1, .string s1] 23)).alloc (.cells #[.int .i64 k2, .int .i64 n2, .string s2] 23)).alloc (.cells #[.int .i64 k3, .int .i64 n3, .string s3] 23)) :=
      (((Below.refl _ _).alloc (Nat.le_refl _) _).alloc (by simp) _).alloc (by simp; omega) _
    have HK := Lib.hid (ht.below hba hp)
    clear ht
    unfold maxLen at h1 h2 h3
    go_enter Tryd.func5, Tryd.ntmps5
    go_wp2_with fail
    refine (known_any _ HK.out).mono ?_
    rintro e w3 ⟨rfl, hb3⟩
    go_wp2_with fail
    go_ret
    exact ⟨rfl, hba.trans (hb3.mono (by simp; omega))⟩
end Go.Proofs.YtfgadkknfehkcaaDoor
