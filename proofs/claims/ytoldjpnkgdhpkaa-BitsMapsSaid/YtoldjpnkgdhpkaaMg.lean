/- merge of the program: two ascending lists gone through together. -/
import Derived.Test.YtoldjpnkgdhpkaaR2
namespace Go.Proofs.Ytoldjpnkgdhpkaa
open Go.RowKit
set_option linter.unusedVariables false
set_option linter.unusedSimpArgs false

def lenV : Value → Nat
  | .slice _ n _ => n
  | _ => 0
theorem lenV_slice (A : Option Addr) (n c : Nat) : lenV (.slice A n c) = n := rfl

theorem Rd.tail {w : World} {B : Nat} {k : IntKind} {ad : Addr} {A' : Option Addr} {x : Int} {zs : List Int} (h : Rd w B k (some ad) (x :: zs)) (hA : A' = some (ad.add 1)) : Rd w B k A' zs := fun hn => by
  obtain ⟨ad', e, hb, hc⟩ := h (by simp)
  injection e with e
  subst e
  refine ⟨_, hA, by rw [block_of_plus]; exact hb, fun j hj => ?_⟩
  rw [plus_plus, hc _ (by simp; omega)]
  simp [Nat.add_comm 1 j]
theorem Rd.tail_if {w : World} {B : Nat} {k : IntKind} {ad : Addr} {c : Nat} {x : Int} {zs : List Int} (h : Rd w B k (some ad) (x :: zs)) (hc : zs.length + 1 ≤ c) :
    Rd w B k (if c = 1 then some ad else some { block := ad.block, off := ad.off + 1 }) zs := by
  by_cases h1 : c = 1
  · exact fun hn => by omega
  · rw [if_neg h1]; exact h.tail rfl
theorem Rd.tail_in {w : World} {B : Nat} {k : IntKind} {A' : Option Addr} {zs : List Int} (h : zs.length + 1 ≤ 1) : Rd w B k A' zs := fun hn => by omega

theorem mk_ab {p q r : Bool} {x y : Int} {a b : List Int} (h : x < y) : mergeK p q r (x :: a) (y :: b) = em p x (mergeK p q r a (y :: b)) := by rw [mergeK, if_pos h]
theorem mk_ba {p q r : Bool} {x y : Int} {a b : List Int} (h : y < x) : mergeK p q r (x :: a) (y :: b) = em q y (mergeK p q r (x :: a) b) := by rw [mergeK, if_neg (by omega), if_pos h]
theorem mk_eq {p q r : Bool} {x y : Int} {a b : List Int} (h : x = y) : mergeK p q r (x :: a) (y :: b) = em r x (mergeK p q r a b) := by rw [mergeK, if_neg (by omega), if_neg (by omega)]
theorem mk_a {p q r : Bool} {x : Int} {a : List Int} : mergeK p q r (x :: a) [] = em p x (mergeK p q r a []) := by rw [mergeK]
theorem mk_b {p q r : Bool} {y : Int} {b : List Int} : mergeK p q r [] (y :: b) = em q y (mergeK p q r [] b) := by rw [mergeK]
theorem step_yes {acc M M' T : List Int} {x : Int} (h : acc ++ M = T) (hM : M = em true x M') : (acc ++ [x]) ++ M' = T := by rw [← h, hM]; simp [em]
theorem step_no {acc M M' T : List Int} {x : Int} (h : acc ++ M = T) (hM : M = em false x M') : acc ++ M' = T := by rw [← h, hM]; simp [em]
theorem length_ok {acc M T : List Int} {n : Nat} (h : acc ++ M = T) (ht : T.length ≤ n) : acc.length ≤ n := by
  rw [← h, List.length_append] at ht; omega

theorem keepBoth_any (a b : Bool) (w : World) : Calls Try.prog 68 #[.bool a, .bool b] w fun e w' => e = .returned (.bool (a && b)) ∧ w = w' := by
  cases a <;>
  · go_enter Try.func68, Try.ntmps68
    go_wp2
    go_ret
    exact ⟨rfl, rfl⟩
theorem keepEither_any (a b : Bool) (w : World) : Calls Try.prog 69 #[.bool a, .bool b] w fun e w' => e = .returned (.bool true) ∧ w = w' := by
  go_enter Try.func69, Try.ntmps69
  go_wp2
  go_ret
  exact ⟨rfl, rfl⟩
theorem keepLess_any (a b : Bool) (w : World) : Calls Try.prog 70 #[.bool a, .bool b] w fun e w' => e = .returned (.bool (!b)) ∧ w = w' := by
  go_enter Try.func70, Try.ntmps70
  go_wp2
  go_ret
  exact ⟨rfl, rfl⟩

set_option maxHeartbeats 8000000 in
theorem merge_less (A A2 : Option Addr) (c c2 : Nat) (xs ys : List Int) (w : World) (hr : Rd w w.heap.size .i64 A xs) (hr2 : Rd w w.heap.size .i64 A2 ys) (hm : xs.length ≤ 100000) (hm2 : ys.length ≤ 100000) (hc : xs.length ≤ c) (hc2 : ys.length ≤ c2)
    (hcm : c ≤ 9223372036854775807) (hcm2 : c2 ≤ 9223372036854775807) :
    Calls Try.prog 67 #[.slice A xs.length c, .slice A2 ys.length c2, .func (.func 70) #[] #[]] w fun e w' => ∃ v, e = .returned v ∧ Own w' w.heap.size 3 .i64 v (mergeK true false false xs ys) ∧ Below w.heap.size w w' := by
  have HR := Lib.hid hr; clear hr
  have HR2 := Lib.hid hr2; clear hr2
  have hml : (mergeK true false false xs ys).length ≤ 1000000 := by have := mergeK_len true false false xs ys; omega
  go_enter Try.func67, Try.ntmps67
  go_wp2
  go_loopw [0, 1, 7] (fun a b v wr => ∃ (A A2 : Option Addr) (c c2 : Nat) (xs' ys' acc : List Int), a = .slice A xs'.length c ∧ b = .slice A2 ys'.length c2 ∧ (xs'.length ≤ c ∧ c ≤ 9223372036854775807 ∧ ys'.length ≤ c2 ∧ c2 ≤ 9223372036854775807 ∧ xs'.length ≤ 100000 ∧ ys'.length ≤ 100000) ∧ Rd w w.heap.size .i64 A xs' ∧ Rd w w.heap.size .i64 A2 ys' ∧
      Own wr w.heap.size 3 .i64 v acc ∧ acc ++ mergeK true false false xs' ys' = mergeK true false false xs ys ∧ Below w.heap.size w wr) (fun a b _ _ => lenV a + lenV b)
  case atStart => exact ⟨A, A2, c, c2, xs, ys, [], rfl, rfl, ⟨hc, hcm, hc2, hcm2, hm, hm2⟩, HR.out, HR2.out, Own.nil _ _ _ _, rfl, Below.refl _ _⟩
  case round =>
    obtain ⟨A, A2, c, c2, xs', ys', acc, rfl, rfl, ⟨g1, g2, g3, g4, g5, g6⟩, r1, r2, hown, hmg, hb⟩ := hrel
    have hal : acc.length ≤ 1000000 := length_ok hmg hml
    have HO := Lib.hid hown; clear hown
    have HB := Lib.hid hb; clear hb
    have HM := Lib.hid hmg; clear hmg
    have R1 := Lib.hid r1; clear r1
    have R2 := Lib.hid r2; clear r2
    rcases xs' with _ | ⟨x, xs'⟩
    · rcases ys' with _ | ⟨y, ys'⟩
      · go_wp2
        go_ret
        exact ⟨_, rfl, HO.out.of_eq (by have := HM.out; rw [mergeK, List.append_nil] at this; exact this), HB.out⟩
      · obtain ⟨ad2, rfl, _, hcb⟩ := (R2.out.below HB.out) (by simp)
        have hy : wr.cell? ad2 = some (.int .i64 y) := by simpa [Addr.add] using hcb 0 (by simp)
        have HCB := Lib.hid hcb; clear hcb
        simp only [List.length_cons, List.length_nil] at g1 g3 g5 g6 ⊢
        go_wp2
        go_quiet (fail)
        go_wp2
        go_quiet (fail)
        go_wp2_with (go_at_call 70; (with_reducible refine (keepLess_any _ _ _).mono ?_); rintro e w1 ⟨rfl, rfl⟩)
        all_goals
          go_roundw
          case rel =>
            refine ⟨_, _, _, _, [], ys', _, rfl, rfl, ⟨by omega, by omega, by simp only [List.length_cons] at *; omega, by omega, by simp only [List.length_cons] at *; omega, by simp only [List.length_cons] at *; omega⟩, ?_, ?_, HO.out.dr ⟨_, rfl⟩, step_no HM.out mk_b, Dr.below HB.out ⟨_, rfl⟩⟩
            · exact R1.out
            · first | exact Rd.tail_if R2.out (by omega) | exact Rd.tail R2.out rfl | exact Rd.tail_in (by omega)
          case measure => (simp only [lenV_slice, List.length_cons, List.length_nil]; omega)
    · rcases ys' with _ | ⟨y, ys'⟩
      · obtain ⟨ad, rfl, _, hca⟩ := (R1.out.below HB.out) (by simp)
        have hx : wr.cell? ad = some (.int .i64 x) := by simpa [Addr.add] using hca 0 (by simp)
        have HCA := Lib.hid hca; clear hca
        simp only [List.length_cons, List.length_nil] at g1 g3 g5 g6 ⊢
        go_wp2
        go_quiet (fail)
        go_wp2
        go_quiet (fail)
        go_wp2_with (first
          | (go_at_call 70; (with_reducible refine (keepLess_any _ _ _).mono ?_); rintro e w1 ⟨rfl, rfl⟩)
          | (at_builtin; refine app_int rfl _ _ rfl w.heap.size _ _ x rfl ((HO.out.dr ⟨_, rfl⟩).alloc _) ⟨wr.heap.size, 0, none⟩ 1 rfl (new_cell _ _ _) hal (size_alloc (Nat.le_trans HB.out.size (Nat.le_refl _)) _) ?_; intro v1 w1 hown1 hb1))
        all_goals
          go_roundw
          case rel =>
            refine ⟨_, _, _, _, xs', [], _, rfl, rfl, ⟨by omega, by omega, by simp only [List.length_cons] at *; omega, by omega, by simp only [List.length_cons] at *; omega, by simp only [List.length_cons] at *; omega⟩, ?_, ?_, hown1, step_yes HM.out mk_a, ((Dr.below HB.out ⟨_, rfl⟩).alloc (Nat.le_trans HB.out.size (Nat.le_refl _)) _).trans hb1⟩
            · first | exact Rd.tail_if R1.out (by omega) | exact Rd.tail R1.out rfl | exact Rd.tail_in (by omega)
            · exact R2.out
          case measure => (simp only [lenV_slice, List.length_cons, List.length_nil]; omega)
      · obtain ⟨ad, rfl, _, hca⟩ := (R1.out.below HB.out) (by simp)
        obtain ⟨ad2, rfl, _, hcb⟩ := (R2.out.below HB.out) (by simp)
        have hx : wr.cell? ad = some (.int .i64 x) := by simpa [Addr.add] using hca 0 (by simp)
        have hy : wr.cell? ad2 = some (.int .i64 y) := by simpa [Addr.add] using hcb 0 (by simp)
        have HCA := Lib.hid hca; clear hca
        have HCB := Lib.hid hcb; clear hcb
        simp only [List.length_cons] at g1 g3 g5 g6 ⊢
        by_cases h : x < y
        · have d1 := dec_le (show x ≤ y by omega)
          have d2 := dec_nole (show ¬ y ≤ x by omega)
          go_wp2
          go_quiet (fail)
          go_wp2
          go_quiet (fail)
          go_wp2_with (first
            | (go_at_call 70; (with_reducible refine (keepLess_any _ _ _).mono ?_); rintro e w1 ⟨rfl, rfl⟩)
            | (at_builtin; refine app_int rfl _ _ rfl w.heap.size _ _ x rfl ((HO.out.dr ⟨_, rfl⟩).alloc _) ⟨wr.heap.size, 0, none⟩ 1 rfl (new_cell _ _ _) hal (size_alloc (Nat.le_trans HB.out.size (Nat.le_refl _)) _) ?_; intro v1 w1 hown1 hb1))
          all_goals
            go_roundw
            case rel =>
              refine ⟨_, _, _, _, xs', (y :: ys'), _, rfl, rfl, ⟨by omega, by omega, by simp only [List.length_cons] at *; omega, by omega, by simp only [List.length_cons] at *; omega, by simp only [List.length_cons] at *; omega⟩, ?_, ?_, hown1, step_yes HM.out (mk_ab h), ((Dr.below HB.out ⟨_, rfl⟩).alloc (Nat.le_trans HB.out.size (Nat.le_refl _)) _).trans hb1⟩
              · first | exact Rd.tail_if R1.out (by omega) | exact Rd.tail R1.out rfl | exact Rd.tail_in (by omega)
              · exact R2.out
            case measure => (simp only [lenV_slice, List.length_cons, List.length_nil]; omega)
        · by_cases h' : y < x
          · have d1 := dec_nole (show ¬ x ≤ y by omega)
            have d2 := dec_le (show y ≤ x by omega)
            go_wp2
            go_quiet (fail)
            go_wp2
            go_quiet (fail)
            go_wp2_with (go_at_call 70; (with_reducible refine (keepLess_any _ _ _).mono ?_); rintro e w1 ⟨rfl, rfl⟩)
            all_goals
              go_roundw
              case rel =>
                refine ⟨_, _, _, _, (x :: xs'), ys', _, rfl, rfl, ⟨by omega, by omega, by simp only [List.length_cons] at *; omega, by omega, by simp only [List.length_cons] at *; omega, by simp only [List.length_cons] at *; omega⟩, ?_, ?_, HO.out.dr ⟨_, rfl⟩, step_no HM.out (mk_ba h'), Dr.below HB.out ⟨_, rfl⟩⟩
                · exact R1.out
                · first | exact Rd.tail_if R2.out (by omega) | exact Rd.tail R2.out rfl | exact Rd.tail_in (by omega)
              case measure => (simp only [lenV_slice, List.length_cons, List.length_nil]; omega)
          · have d1 := dec_le (show x ≤ y by omega)
            have d2 := dec_le (show y ≤ x by omega)
            have h3 : x = y := by omega
            have H3 := Lib.hid h3; clear h3
            go_wp2
            go_quiet (fail)
            go_wp2
            go_quiet (fail)
            go_wp2_with (go_at_call 70; (with_reducible refine (keepLess_any _ _ _).mono ?_); rintro e w1 ⟨rfl, rfl⟩)
            all_goals
              go_roundw
              case rel =>
                refine ⟨_, _, _, _, xs', ys', _, rfl, rfl, ⟨by omega, by omega, by simp only [List.length_cons] at *; omega, by omega, by simp only [List.length_cons] at *; omega, by simp only [List.length_cons] at *; omega⟩, ?_, ?_, HO.out.dr ⟨_, rfl⟩, step_no HM.out (mk_eq H3.out), Dr.below HB.out ⟨_, rfl⟩⟩
                · first | exact Rd.tail_if R1.out (by omega) | exact Rd.tail R1.out rfl | exact Rd.tail_in (by omega)
                · first | exact Rd.tail_if R2.out (by omega) | exact Rd.tail R2.out rfl | exact Rd.tail_in (by omega)
              case measure => (simp only [lenV_slice, List.length_cons, List.length_nil]; omega)
end Go.Proofs.Ytoldjpnkgdhpkaa
