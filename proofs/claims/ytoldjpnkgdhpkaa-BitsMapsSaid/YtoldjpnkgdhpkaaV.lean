/- Knowledge: both lists; Validate of both; same, over; what calls of the library's kind give. -/
import Derived.Test.YtoldjpnkgdhpkaaMg
import Derived.Test.YtoldjpnkgdhpkaaMg2
import Derived.Test.YtoldjpnkgdhpkaaMg3
namespace Go.Proofs.Ytoldjpnkgdhpkaa
open Go.RowKit
set_option linter.unusedVariables false

/-- What a list must be, to be called with. -/
structure Lk (w : World) (B : Nat) (A : Option Addr) (zs : List Int) (c : Nat) : Prop where
  rd : Rd w B .i64 A zs
  len : zs.length ≤ 3000
  cap : zs.length ≤ c
  max : c ≤ 9223372036854775807
  i64 : Is64 zs
section
variable {w w' : World} {B B' : Nat} {A : Option Addr} {zs : List Int} {c : Nat}
theorem Lk.below (h : Lk w B A zs c) (hb : Below B w w') : Lk w' B A zs c := ⟨h.rd.below hb, h.len, h.cap, h.max, h.i64⟩
theorem Lk.alloc (h : Lk w B A zs c) (hB : B ≤ w.heap.size) (o : Obj) : Lk (w.alloc o) B A zs c := ⟨h.rd.alloc hB o, h.len, h.cap, h.max, h.i64⟩
theorem Lk.more (h : Lk w B A zs c) (hB : B ≤ B') : Lk w B' A zs c := ⟨h.rd.more hB, h.len, h.cap, h.max, h.i64⟩
theorem Lk.dr (h : Lk w B A zs c) (hd : Dr w w') : Lk w' B A zs c := ⟨h.rd.dr hd, h.len, h.cap, h.max, h.i64⟩
end
theorem Own.lk {w : World} {base : Nat} {v : Value} {zs : List Int} (h : Own w base 3 .i64 v zs) (hl : zs.length ≤ 3000) (hi : Is64 zs) : ∃ A c, v = .slice A zs.length c ∧ Lk w w.heap.size A zs c := by
  obtain ⟨A, c, e, h1, h2, h3⟩ := h.out
  exact ⟨A, c, e, h3, hl, h1, by unfold maxLen at h2; omega, hi⟩
theorem IsS.is64 {l : List Int} (h : IsS l) : Is64 l := fun z hz => by have := h.1 z hz; omega
theorem is64_merge {xs ys : List Int} (p q r : Bool) (hx : Is64 xs) (hy : Is64 ys) : Is64 (mergeK p q r xs ys) := fun z hz => (mem_merge_or p q r z xs ys hz).elim (hx z) (hy z)

set_option maxHeartbeats 1000000 in
theorem without_any (A A2 : Option Addr) (c c2 : Nat) (xs ys : List Int) (w : World) (h1 : Lk w w.heap.size A xs c) (h2 : Lk w w.heap.size A2 ys c2) :
    Calls Try.prog 54 #[.slice A xs.length c, .slice A2 ys.length c2] w fun e w' => ∃ v, e = .returned v ∧ Own w' w.heap.size 3 .i64 v (lessL xs ys) ∧ Below w.heap.size w w' := by
  have H1 := Lib.hid h1; clear h1
  have H2 := Lib.hid h2; clear h2
  go_enter Try.func54, Try.ntmps54
  go_wp2_with fail
  refine (merge_less A A2 c c2 xs ys w H1.out.rd H2.out.rd (by have := H1.out.len; omega) (by have := H2.out.len; omega) H1.out.cap H2.out.cap H1.out.max H2.out.max).mono ?_
  rintro e w1 ⟨v, rfl, hown, hb⟩
  have HO := Lib.hid hown; clear hown
  go_wp2_with fail
  go_ret
  exact ⟨v, rfl, HO.out, hb⟩
set_option maxHeartbeats 1000000 in
theorem both_any (A A2 : Option Addr) (c c2 : Nat) (xs ys : List Int) (w : World) (h1 : Lk w w.heap.size A xs c) (h2 : Lk w w.heap.size A2 ys c2) :
    Calls Try.prog 48 #[.slice A xs.length c, .slice A2 ys.length c2] w fun e w' => ∃ v, e = .returned v ∧ Own w' w.heap.size 3 .i64 v (interL xs ys) ∧ Below w.heap.size w w' := by
  have H1 := Lib.hid h1; clear h1
  have H2 := Lib.hid h2; clear h2
  go_enter Try.func48, Try.ntmps48
  go_wp2_with fail
  refine (merge_both A A2 c c2 xs ys w H1.out.rd H2.out.rd (by have := H1.out.len; omega) (by have := H2.out.len; omega) H1.out.cap H2.out.cap H1.out.max H2.out.max).mono ?_
  rintro e w1 ⟨v, rfl, hown, hb⟩
  have HO := Lib.hid hown; clear hown
  go_wp2_with fail
  go_ret
  exact ⟨v, rfl, HO.out, hb⟩
set_option maxHeartbeats 1000000 in
theorem either_any (A A2 : Option Addr) (c c2 : Nat) (xs ys : List Int) (w : World) (h1 : Lk w w.heap.size A xs c) (h2 : Lk w w.heap.size A2 ys c2) :
    Calls Try.prog 51 #[.slice A xs.length c, .slice A2 ys.length c2] w fun e w' => ∃ v, e = .returned v ∧ Own w' w.heap.size 3 .i64 v (unionL xs ys) ∧ Below w.heap.size w w' := by
  have H1 := Lib.hid h1; clear h1
  have H2 := Lib.hid h2; clear h2
  go_enter Try.func51, Try.ntmps51
  go_wp2_with fail
  refine (merge_either A A2 c c2 xs ys w H1.out.rd H2.out.rd (by have := H1.out.len; omega) (by have := H2.out.len; omega) H1.out.cap H2.out.cap H1.out.max H2.out.max).mono ?_
  rintro e w1 ⟨v, rfl, hown, hb⟩
  have HO := Lib.hid hown; clear hown
  go_wp2_with fail
  go_ret
  exact ⟨v, rfl, HO.out, hb⟩

/-- Right knowledge. -/
def VB (s m : List Int) : Bool := isSetB 300 s && isSetB 300 m && s.all fun x => decide (x ∈ m)
def VN (s m : List Int) : Int := if VB s m then 0 else 1
theorem VB_iff (s m : List Int) : VB s m = true ↔ IsS s ∧ IsS m ∧ ∀ x ∈ s, x ∈ m := by
  simp only [VB, Bool.and_eq_true, decide_eq_true_eq, IsS.iff, and_assoc, List.all_eq_true]
theorem VN_cases (s m : List Int) : (VN s m = 0 ∧ VB s m = true) ∨ (VN s m = 1 ∧ VB s m = false) := by
  unfold VN; cases VB s m <;> simp

theorem ret_i {a b : Int} (h : a = b) : Ending.returned (.int .i64 a) = .returned (.int .i64 b) := by rw [h]

theorem bstep {w w1 : World} {o : Obj} (hb : Below (w.alloc o).heap.size (w.alloc o) w1) : Below w.heap.size w w1 :=
  (Below.of_alloc w o _ (Nat.le_refl _)).trans (hb.mono (by simp))

set_option maxHeartbeats 2000000 in
theorem validate_any (A A2 : Option Addr) (c c2 : Nat) (s m : List Int) (w : World) (h1 : Lk w w.heap.size A s c) (h2 : Lk w w.heap.size A2 m c2) :
    Calls Try.prog 19 #[.agg #[.slice A s.length c, .slice A2 m.length c2]] w fun e w' => e = .returned (.int .i64 (VN s m)) ∧ Below w.heap.size w w' := by
  have H1 := Lib.hid h1; clear h1
  have H2 := Lib.hid h2; clear h2
  have ha : w.heap.size ≤ w.heap.size := Nat.le_refl _
  by_cases hs : isSetB 300 s = true
  · by_cases hm : isSetB 300 m = true
    · by_cases hi : ∀ x ∈ s, x ∈ m
      · have hv : VN s m = 0 := by simp [VN, VB, hs, hm]; simpa using hi
        have hz : (lessL s m).length = 0 := by rw [(lessL_nil_iff ((IsS.iff s).1 hs).2 ((IsS.iff m).1 hm).2).2 hi]; rfl
        have HI := Lib.hid hi; clear hi
        have HV := Lib.hid hv; clear hv
        have HZ := Lib.hid hz; clear hz
        go_enter Try.func19, Try.ntmps19
        go_wp2_with fail
        refine (isSet_any A c s 300 _ _ (H1.out.alloc ha _).rd H1.out.i64 (by have := H1.out.len; omega)).mono ?_
        rintro e w' ⟨rfl, rfl⟩
        go_wp2_with fail
        refine (isSet_any A2 c2 m 300 _ _ (H2.out.alloc ha _).rd H2.out.i64 (by have := H2.out.len; omega)).mono ?_
        rintro e w' ⟨rfl, rfl⟩
        go_wp2_with fail
        refine (without_any A A2 c c2 s m _ ((H1.out.alloc ha _).more (by simp)) ((H2.out.alloc ha _).more (by simp))).mono ?_
        rintro e w1 ⟨v, rfl, hown, hb⟩
        obtain ⟨A3, c3, rfl, _⟩ := hown.out
        have HO := Lib.hid hown; clear hown
        rw [HZ.out]
        go_wp2_with fail
        go_ret
        exact ⟨ret_i HV.out.symm, bstep hb⟩
      · have hv : VN s m = 1 := by simp [VN, VB, hs, hm]; simpa using hi
        have hz : 0 < (lessL s m).length := by
          rcases Nat.eq_zero_or_pos (lessL s m).length with h0 | h0
          · exact absurd ((lessL_nil_iff ((IsS.iff s).1 hs).2 ((IsS.iff m).1 hm).2).1 (List.length_eq_zero_iff.1 h0)) hi
          · exact h0
        have HI := Lib.hid hi; clear hi
        have HV := Lib.hid hv; clear hv
        go_enter Try.func19, Try.ntmps19
        go_wp2_with fail
        refine (isSet_any A c s 300 _ _ (H1.out.alloc ha _).rd H1.out.i64 (by have := H1.out.len; omega)).mono ?_
        rintro e w' ⟨rfl, rfl⟩
        go_wp2_with fail
        refine (isSet_any A2 c2 m 300 _ _ (H2.out.alloc ha _).rd H2.out.i64 (by have := H2.out.len; omega)).mono ?_
        rintro e w' ⟨rfl, rfl⟩
        go_wp2_with fail
        refine (without_any A A2 c c2 s m _ ((H1.out.alloc ha _).more (by simp)) ((H2.out.alloc ha _).more (by simp))).mono ?_
        rintro e w1 ⟨v, rfl, hown, hb⟩
        obtain ⟨A3, c3, rfl, _⟩ := hown.out
        have HO := Lib.hid hown; clear hown
        go_wp2_with fail
        go_ret
        exact ⟨ret_i HV.out.symm, bstep hb⟩
    · have hm' : isSetB 300 m = false := by simpa using hm
      have hv : VN s m = 1 := by simp [VN, VB, hs, hm']
      have HV := Lib.hid hv; clear hv hm
      go_enter Try.func19, Try.ntmps19
      go_wp2_with fail
      refine (isSet_any A c s 300 _ _ (H1.out.alloc ha _).rd H1.out.i64 (by have := H1.out.len; omega)).mono ?_
      rintro e w' ⟨rfl, rfl⟩
      go_wp2_with fail
      refine (isSet_any A2 c2 m 300 _ _ (H2.out.alloc ha _).rd H2.out.i64 (by have := H2.out.len; omega)).mono ?_
      rintro e w' ⟨rfl, rfl⟩
      go_wp2_with fail
      go_ret
      exact ⟨ret_i HV.out.symm, Below.of_alloc _ _ _ (Nat.le_refl _)⟩
  · have hs' : isSetB 300 s = false := by simpa using hs
    have hv : VN s m = 1 := by simp [VN, VB, hs']
    have HV := Lib.hid hv; clear hv hs
    go_enter Try.func19, Try.ntmps19
    go_wp2_with fail
    refine (isSet_any A c s 300 _ _ (H1.out.alloc ha _).rd H1.out.i64 (by have := H1.out.len; omega)).mono ?_
    rintro e w' ⟨rfl, rfl⟩
    go_wp2_with fail
    go_ret
    exact ⟨ret_i HV.out.symm, Below.of_alloc _ _ _ (Nat.le_refl _)⟩

theorem all_drop (s : List Int) (p : Int → Bool) {k : Nat} (hk : k < s.length) : (s.drop k).all p = (p (s.getD k 0) && (s.drop (k + 1)).all p) := by
  rw [drop_at s hk, List.all_cons]

set_option maxHeartbeats 2000000 in
theorem refValidate_any (A A2 : Option Addr) (c c2 : Nat) (s m : List Int) (w : World) (h1 : Lk w w.heap.size A s c) (h2 : Lk w w.heap.size A2 m c2) :
    Calls Try.prog 20 #[.agg #[.slice A s.length c, .slice A2 m.length c2]] w fun e w' => e = .returned (.int .i64 (VN s m)) ∧ Below w.heap.size w w' := by
  have hlen := h1.len
  have H1 := Lib.hid h1; clear h1
  have H2 := Lib.hid h2; clear h2
  have ha : w.heap.size ≤ w.heap.size := Nat.le_refl _
  by_cases hs : isSetB 300 s = true
  · by_cases hm : isSetB 300 m = true
    · have hv : VN s m = if (s.all fun x => decide (x ∈ m)) then 0 else 1 := by simp only [VN, VB, hs, hm, Bool.true_and]
      have HV := Lib.hid hv; clear hv
      go_enter Try.func20, Try.ntmps20
      go_wp2_with fail
      refine (refIsSet_any A c s _ _ (H1.out.alloc ha _).rd H1.out.i64 (by have := H1.out.len; omega)).mono ?_
      rintro e w' ⟨rfl, n1, rfl⟩
      go_wp2_with fail
      refine (refIsSet_any A2 c2 m _ _ ((H2.out.alloc ha _).dr ⟨n1, rfl⟩).rd H2.out.i64 (by have := H2.out.len; omega)).mono ?_
      rintro e w' ⟨rfl, n2, rfl⟩
      go_wp2_with fail
      go_loopw [3] (fun i wr => ∃ k : Nat, k ≤ s.length ∧ i = .int .i64 k ∧ (s.all fun x => decide (x ∈ m)) = ((s.drop k).all fun x => decide (x ∈ m)) ∧ Dr (w.alloc (.cells #[.slice A s.length c, .slice A2 m.length c2] 24)) wr) (fun i _ => s.length - (intOf i).toNat)
      case atStart => exact ⟨0, by omega, rfl, by simp, ⟨_, rfl⟩⟩
      case round =>
        obtain ⟨k, hk, rfl, he, hd⟩ := hrel
        have HE := Lib.hid he; clear he
        have HD := Lib.hid hd
        have hc0 : wr.cell? ⟨w.heap.size, 0, none⟩ = some (.slice A s.length c) := by rw [hd.cell]; exact cell_of_row _ _ 0 _ _ (0, 0) (heap_alloc_new w _)
        have hc1 : wr.cell? ⟨w.heap.size, 1, none⟩ = some (.slice A2 m.length c2) := by rw [hd.cell]; exact cell_of_row _ _ 1 _ _ (0, 0) (heap_alloc_new w _)
        clear hd
        by_cases hlt : k < s.length
        · obtain ⟨ad, rfl, _, hcc⟩ := ((H1.out.alloc ha _).dr HD.out).rd (by omega)
          have hck := hcc k hlt
          have HC := Lib.hid hcc; clear hcc
          have hal := all_drop s (fun x => decide (x ∈ m)) hlt
          have HA := Lib.hid hal; clear hal
          have j1 : (0 : Int) ≤ (k : Int) := by omega
          have j2 : (k : Int) < s.length := by omega
          generalize s.getD k 0 = x at *
          by_cases hin : x ∈ m
          · have hdd : decide (x ∈ m) = true := by simpa using hin
            have HI := Lib.hid hin; clear hin
            go_wp2
            go_quiet ((go_at_call 27; exact Calls.quiet_of_same ((has_any _ _ m _ _ _ (((H2.out.alloc ha _).dr HD.out).rd.drewN _) (by have := H2.out.len; omega)).mono fun e w' h => ⟨h.1, h.2.symm⟩)))
            go_wp2
            go_roundw
            case rel => exact ⟨k + 1, by omega, by go_num, by rw [HE.out, HA.out]; simp [HI.out], HD.out.step _⟩
            case measure => simp [intOf]; omega
          · have hdd : decide (x ∈ m) = false := by simpa using hin
            have HI := Lib.hid hin; clear hin
            go_wp2
            go_quiet ((go_at_call 27; exact Calls.quiet_of_same ((has_any _ _ m _ _ _ (((H2.out.alloc ha _).dr HD.out).rd.drewN _) (by have := H2.out.len; omega)).mono fun e w' h => ⟨h.1, h.2.symm⟩)))
            go_wp2
            go_ret
            exact ⟨ret_i (by rw [HV.out, HE.out, HA.out]; simp [HI.out]), Dr.below (Below.of_alloc _ _ _ (Nat.le_refl _)) (HD.out.step _)⟩
        · have hkl : k = s.length := by omega
          have HK := Lib.hid hkl; clear hkl
          go_wp2
          go_ret
          exact ⟨ret_i (by rw [HV.out, HE.out, List.drop_of_length_le (by have := HK.out; omega)]; simp), Dr.below (Below.of_alloc _ _ _ (Nat.le_refl _)) HD.out⟩
    · have hm' : isSetB 300 m = false := by simpa using hm
      have hv : VN s m = 1 := by simp [VN, VB, hs, hm']
      have HV := Lib.hid hv; clear hv hm
      go_enter Try.func20, Try.ntmps20
      go_wp2_with fail
      refine (refIsSet_any A c s _ _ (H1.out.alloc ha _).rd H1.out.i64 (by have := H1.out.len; omega)).mono ?_
      rintro e w' ⟨rfl, n1, rfl⟩
      go_wp2_with fail
      refine (refIsSet_any A2 c2 m _ _ ((H2.out.alloc ha _).dr ⟨n1, rfl⟩).rd H2.out.i64 (by have := H2.out.len; omega)).mono ?_
      rintro e w' ⟨rfl, n2, rfl⟩
      go_wp2_with fail
      go_ret
      exact ⟨ret_i HV.out.symm, Dr.below (Below.of_alloc _ _ _ (Nat.le_refl _)) ⟨n1 + n2, rfl⟩⟩
  · have hs' : isSetB 300 s = false := by simpa using hs
    have hv : VN s m = 1 := by simp [VN, VB, hs']
    have HV := Lib.hid hv; clear hv hs
    go_enter Try.func20, Try.ntmps20
    go_wp2_with fail
    refine (refIsSet_any A c s _ _ (H1.out.alloc ha _).rd H1.out.i64 (by have := H1.out.len; omega)).mono ?_
    rintro e w' ⟨rfl, n1, rfl⟩
    go_wp2_with fail
    go_ret
    exact ⟨ret_i HV.out.symm, Dr.below (Below.of_alloc _ _ _ (Nat.le_refl _)) ⟨n1, rfl⟩⟩
end Go.Proofs.Ytoldjpnkgdhpkaa
