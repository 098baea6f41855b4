/- SameInts of the reference; same and over of the statements; isCount of the program, isBelow of the reference. -/
import Derived.Test.YtoldjpnkgdhpkaaP3
namespace Go.Proofs.Ytoldjpnkgdhpkaa
open Go.RowKit
set_option linter.unusedVariables false
set_option linter.unusedSimpArgs false

theorem take_ext (xs ys : List Int) {k : Nat} (h : k < xs.length) (h' : k < ys.length) (he : xs.take k = ys.take k) (hk : xs.getD k 0 = ys.getD k 0) : xs.take (k + 1) = ys.take (k + 1) := by
  rw [take_snoc xs h, take_snoc ys h', he, hk]
theorem getD_ne {xs ys : List Int} {k : Nat} (h : xs.getD k 0 ≠ ys.getD k 0) : xs ≠ ys := fun e => h (by rw [e])

set_option maxHeartbeats 2000000 in
theorem sameInts_any (A A2 : Option Addr) (c c2 : Nat) (xs ys : List Int) (w : World) (B B2 : Nat) (hr : Rd w B .i64 A xs) (hr2 : Rd w B2 .i64 A2 ys) (hm : xs.length ≤ 1000000) (hm2 : ys.length ≤ 1000000) :
    Calls Try.prog 34 #[.slice A xs.length c, .slice A2 ys.length c2] w fun e w' => e = .returned (.bool (decide (xs = ys))) ∧ Dr w w' := by
  have HR := Lib.hid hr; clear hr
  have HR2 := Lib.hid hr2; clear hr2
  by_cases hl : xs.length = ys.length
  · have HL := Lib.hid hl
    generalize hn : ys.length = n at *
    have HN := Lib.hid hn; clear hn
    have hxn : xs.length = n := hl
    clear hl
    rw [hxn]
    have HX := Lib.hid hxn; clear hxn hm
    go_enter Try.func34, Try.ntmps34
    go_wp2
    go_loopw [5] (fun i wr => ∃ k : Nat, k ≤ n ∧ i = .int .i64 k ∧ xs.take k = ys.take k ∧ Dr w wr) (fun i _ => n - (intOf i).toNat)
    case atStart => exact ⟨0, by omega, rfl, by simp, Dr.refl _⟩
    case round =>
      obtain ⟨k, hk, rfl, hs, hd⟩ := hrel
      have HS := Lib.hid hs; clear hs
      have HD := Lib.hid hd; clear hd
      by_cases hlt : k < n
      · obtain ⟨ad, rfl, _, hc⟩ := (HR.out.dr HD.out) (by have := HX.out; omega)
        obtain ⟨ad2, rfl, _, hc2⟩ := (HR2.out.dr HD.out) (by have := HN.out; omega)
        have hck := hc k (by have := HX.out; omega)
        have hck2 := hc2 k (by have := HN.out; omega)
        have HC := Lib.hid hc; clear hc
        have HC2 := Lib.hid hc2; clear hc2
        have j1 : (0 : Int) ≤ (k : Int) := by omega
        have j2 : (k : Int) < n := by omega
        by_cases hxy : xs.getD k 0 = ys.getD k 0
        · have HE := Lib.hid (take_ext xs ys (by have := HX.out; omega) (by have := HN.out; omega) HS.out hxy)
          rw [hxy] at hck
          clear hxy
          generalize ys.getD k 0 = y at *
          go_wp2
          go_quiet (fail)
          go_wp2
          go_roundw
          case rel => exact ⟨k + 1, by omega, by go_num, HE.out, HD.out.step _⟩
          case measure => simp [intOf]; omega
        · have HE := Lib.hid (getD_ne hxy)
          have d : (xs.getD k 0 == ys.getD k 0) = false := by simpa using hxy
          have d2 : (xs.getD k 0 != ys.getD k 0) = true := by simpa using hxy
          clear hxy
          generalize ys.getD k 0 = y at *
          generalize xs.getD k 0 = x at *
          go_wp2
          go_quiet (fail)
          go_wp2
          go_ret
          exact ⟨ret_b (by simp [HE.out]), HD.out.step _⟩
      · have hkl : k = n := by omega
        have HK := Lib.hid hkl; clear hkl
        go_wp2
        go_ret
        exact ⟨ret_b (by have := HS.out; rw [HK.out, List.take_of_length_le (by have := HX.out; omega), List.take_of_length_le (by have := HN.out; omega)] at this; simp [this]), HD.out⟩
  · have HL := Lib.hid hl
    have d : ((xs.length : Int) == (ys.length : Int)) = false := by rw [beq_eq_false_iff_ne]; omega
    have d2 : (xs.length == ys.length) = false := by simpa using hl
    clear hl
    go_enter Try.func34, Try.ntmps34
    go_wp2
    go_ret
    exact ⟨ret_b (by simp; intro e; exact HL.out (by rw [e])), Dr.refl _⟩

theorem lk2 {w : World} {A : Option Addr} {zs : List Int} {c : Nat} (h : Lk w w.heap.size A zs c) (o1 o2 : Obj) : Lk ((w.alloc o1).alloc o2) w.heap.size A zs c := (h.alloc (Nat.le_refl _) _).alloc (by simp) _
theorem below2 (w : World) (o1 o2 : Obj) : Below w.heap.size w ((w.alloc o1).alloc o2) := (Below.of_alloc w _ _ (Nat.le_refl _)).alloc (by simp) _
theorem same_eq {s s2 m m2 : List Int} {a b : Bool} (h1 : decide (s = s2) = a) (h2 : decide (m = m2) = b) : (a && b) = (decide (s = s2) && decide (m = m2)) := by rw [h1, h2]

set_option maxHeartbeats 2000000 in
theorem same_any (A A2 B1 B2 : Option Addr) (c c2 e1 e2 : Nat) (s m s2 m2 : List Int) (w : World) (h1 : Lk w w.heap.size A s c) (h2 : Lk w w.heap.size A2 m c2) (h3 : Lk w w.heap.size B1 s2 e1) (h4 : Lk w w.heap.size B2 m2 e2) :
    Calls Try.prog 18 #[.agg #[.slice A s.length c, .slice A2 m.length c2], .agg #[.slice B1 s2.length e1, .slice B2 m2.length e2]] w fun e w' => e = .returned (.bool (decide (s = s2) && decide (m = m2))) ∧ Below w.heap.size w w' := by
  have l1 := h1.len; have l2 := h2.len; have l3 := h3.len; have l4 := h4.len
  have H1 := Lib.hid h1; clear h1
  have H2 := Lib.hid h2; clear h2
  have H3 := Lib.hid h3; clear h3
  have H4 := Lib.hid h4; clear h4
  generalize ha : decide (s = s2) = a
  generalize hb : decide (m = m2) = b
  have HA := Lib.hid ha; clear ha
  have HBB := Lib.hid hb; clear hb
  go_enter Try.func18, Try.ntmps18
  go_wp2_with fail
  refine (sameInts_any A B1 c e1 s s2 _ _ _ (lk2 H1.out _ _).rd (lk2 H3.out _ _).rd (by omega) (by omega)).mono ?_
  rintro e w' ⟨rfl, n1, rfl⟩
  rw [HA.out]
  cases a
  · go_wp2_with fail
    go_ret
    exact ⟨rfl, Dr.below (below2 _ _ _) ⟨n1, rfl⟩⟩
  · go_wp2_with fail
    refine (sameInts_any A2 B2 c2 e2 m m2 _ _ _ ((lk2 H2.out _ _).rd.drewN _) ((lk2 H4.out _ _).rd.drewN _) (by omega) (by omega)).mono ?_
    rintro e w' ⟨rfl, n2, rfl⟩
    rw [HBB.out]
    go_wp2_with fail
    go_ret
    exact ⟨by simp, Dr.below (below2 _ _ _) ⟨n1 + n2, rfl⟩⟩

set_option maxHeartbeats 1000000 in
theorem over_any (A A2 : Option Addr) (c c2 : Nat) (s m : List Int) (w : World) (hm : s.length ≤ 9223372036854775807) (hm2 : m.length ≤ 9223372036854775807) :
    Calls Try.prog 12 #[.agg #[.slice A s.length c, .slice A2 m.length c2]] w fun e w' => e = .returned (.bool (decide (3000 < s.length) || decide (3000 < m.length))) ∧ Below w.heap.size w w' := by
  by_cases h1 : 3000 < s.length
  · have d : decide (3000 < s.length) = true := by simpa using h1
    go_enter Try.func12, Try.ntmps12
    go_wp2
    go_ret
    exact ⟨ret_b (by by_cases h2 : 3000 < m.length <;> simp [h1, h2] <;> omega), Below.of_alloc _ _ _ (Nat.le_refl _)⟩
  · have d : decide (3000 < s.length) = false := by simpa using h1
    go_enter Try.func12, Try.ntmps12
    go_wp2
    go_ret
    exact ⟨ret_b (by by_cases h2 : 3000 < m.length <;> simp [h1, h2] <;> omega), Below.of_alloc _ _ _ (Nat.le_refl _)⟩

def cntB (n : Int) : Bool := decide (0 ≤ n) && decide (n ≤ 300)
theorem isCount_any (n : Int) (w : World) : Calls Try.prog 56 #[.int .i64 n] w fun e w' => e = .returned (.bool (cntB n)) ∧ w = w' := by
  by_cases h1 : 0 ≤ n
  · go_enter Try.func56, Try.ntmps56
    go_wp2
    go_ret
    exact ⟨by simp [cntB, h1], rfl⟩
  · have d : decide (0 ≤ n) = false := by simpa using h1
    go_enter Try.func56, Try.ntmps56
    go_wp2
    go_ret
    exact ⟨ret_b (by simp [cntB]; omega), rfl⟩
end Go.Proofs.Ytoldjpnkgdhpkaa
