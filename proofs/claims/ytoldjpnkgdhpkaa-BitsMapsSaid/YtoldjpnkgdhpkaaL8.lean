/- The walk of BitsRanges. -/
import Derived.Test.YtoldjpnkgdhpkaaR7
import Derived.Test.YtoldjpnkgdhpkaaL11
import Derived.ChangeKeysEq
import Derived.Laws.StructEq
namespace Go.Proofs.Ytoldjpnkgdhpkaa
open Go.RowKit
set_option linter.unusedVariables false
set_option linter.unusedSimpArgs false

/-- Stretches of the call's own, with an error's number. -/
def PRes (w : World) (l : List (Int × Int)) (n : Int) (e : Ending) (w' : World) : Prop :=
  ∃ (A : Option Addr) (c : Nat), e = .returned (.tuple #[.slice A l.length c, .int .i64 n]) ∧ OwnP w' w.heap.size (.slice A l.length c) l ∧ Below w.heap.size w w'
theorem PRes.err {w w' : World} {e : Ending} (he : e = .returned (.tuple #[.slice none 0 0, .int .i64 1])) (hb : Below w.heap.size w w') : PRes w [] 1 e w' := ⟨none, 0, he, OwnP.nil _ _, hb⟩
theorem PRes.ok {w w' : World} {e : Ending} {v : Value} {l : List (Int × Int)} {n : Int} (he : e = .returned (.tuple #[v, .int .i64 n])) (ho : OwnP w' w.heap.size v l) (hb : Below w.heap.size w w') : PRes w l n e w' := by
  obtain ⟨A, c, rfl, _⟩ := ho.out
  exact ⟨A, c, he, ho, hb⟩
def rgRL (xs : List Int) : List (Int × Int) := if isSetB 300 xs then rangesL xs else []
def rgRN (xs : List Int) : Int := if isSetB 300 xs then 0 else 1
theorem rgRL_len (xs : List Int) : (rgRL xs).length ≤ xs.length := by
  unfold rgRL; split
  · exact rangesL_len _
  · simp
theorem ranges_any (A : Option Addr) (c : Nat) (xs : List Int) (w : World) (h1 : Lk w w.heap.size A xs c) :
    Calls Try.prog 35 #[.slice A xs.length c] w (PRes w (rgRL xs) (rgRN xs)) := by
  unfold rgRL rgRN
  cases h : isSetB 300 xs
  · exact (ranges_no A c xs w h1 h).mono fun e w' ⟨he, hw⟩ => .err he (hw ▸ Below.refl _ _)
  · exact (ranges_yes A c xs w h1 h).mono fun e w' ⟨v, he, ho, hb⟩ => .ok he ho hb
theorem refRanges_any (A : Option Addr) (c : Nat) (xs : List Int) (w : World) (h1 : Lk w w.heap.size A xs c) :
    Calls Try.prog 36 #[.slice A xs.length c] w (PRes w (rgRL xs) (rgRN xs)) := by
  unfold rgRL rgRN
  cases h : isSetB 300 xs
  · exact (refRanges_no A c xs w h1 h).mono fun e w' ⟨he, hw⟩ => .err he (Dr.below (Below.refl _ _) hw)
  · exact (refRanges_yes A c xs w h1 h).mono fun e w' ⟨v, he, ho, hb⟩ => .ok he ho hb

theorem eq_guard : Try.prog.eqGuardType Try.prog.depth 50 = false := by kernel_rfl
theorem cells_int : Try.prog.cellsOf 3 = 1 := by kernel_rfl
theorem eq_pair_at (W : World) (a b : Int) (d : Nat) : (Op.equalIn (d + 1 + 1) 50 (.agg #[.int .i64 a, .int .i64 b]) (.agg #[.int .i64 a, .int .i64 b])).run Try.prog W = .ok true W := by
  obtain ⟨i0, hi0, hz0, hz1, hz2⟩ := info_parts info3
  rw [run_equalIn_array W (d + 1) _ _ Try.underlying50 hi0, cells_int]
  have hl : List.range 2 = [0, 1] := rfl
  rw [hl]
  simp [Op.eqItems, part, Op.equalIn, run_underlying Try.underlying3, sizeOf, typeInfo, hi0, hz1]
theorem eq_pair (W : World) (a b : Int) : (Op.equalIn 10000 50 (.agg #[.int .i64 a, .int .i64 b]) (.agg #[.int .i64 a, .int .i64 b])).run Try.prog W = .ok true W := eq_pair_at W a b 9998

set_option maxHeartbeats 4000000 in
theorem bitsRanges_any (A : Option Addr) (c : Nat) (xs : List Int) (w : World) (h1 : In w A xs c) :
    Calls Try.prog 8 #[.slice A xs.length c] w fun e w' => e = .returned (.bool true) ∧ Below w.heap.size w w' := by
  have l1 := h1.len
  by_cases ha : 3000 < xs.length
  · go_enter Try.func8, Try.ntmps8
    go_wp2_with fail
    refine (known_any _).mono ?_
    rintro e w1 ⟨rfl, hb⟩
    go_wp2_with fail
    go_ret
    exact ⟨rfl, hb⟩
  · have hrl : (rgRL xs).length ≤ 3000 := Nat.le_trans (rgRL_len _) (by omega)
    have k1 := h1.lk (by omega)
    have c1 := ranges_any A c xs w k1
    have c2' : ∀ W, Below w.heap.size w W → w.heap.size ≤ W.heap.size → Calls Try.prog 36 #[.slice A xs.length c] W (PRes W (rgRL xs) (rgRN xs)) := fun W hw hz => refRanges_any A c xs W ((k1.below hw).more hz)
    generalize rgRL xs = l at *
    generalize rgRN xs = n at *
    have C1 := Lib.hid c1; clear c1
    have C2 := Lib.hid c2'; clear c2' k1 h1
    go_enter Try.func8, Try.ntmps8
    go_wp2_with fail
    refine C1.out.mono ?_
    rintro e w1 ⟨D1, d1, rfl, ho1, hb1⟩
    have HO1 := Lib.hid ho1; clear ho1
    have HB1 := Lib.hid hb1; clear hb1
    go_wp2_with fail
    refine (C2.out _ HB1.out HB1.out.size).mono ?_
    rintro e w2 ⟨D2, d2, rfl, ho2, hb2⟩
    have HO1' := Lib.hid (HO1.out.below hb2 (Nat.le_refl _))
    have HO2 := Lib.hid ho2; clear ho2
    have HB2 := Lib.hid hb2; clear hb2
    go_wp2_with fail
    go_loopw [7] (fun i wr => ∃ k : Nat, k ≤ l.length ∧ i = .int .i64 k ∧ Dr w2 wr) (fun i _ => l.length - (intOf i).toNat)
    case atStart => exact ⟨0, by omega, rfl, Dr.refl _⟩
    case round =>
      obtain ⟨k, hk, rfl, hd⟩ := hrel
      have HD := Lib.hid hd; clear hd
      by_cases hlt : k < l.length
      · obtain ⟨g, c9, he9, _, _, _, _, hcells, _⟩ := (HO1'.out.dr HD.out).form (by omega)
        obtain ⟨rfl, rfl⟩ : D1 = some ⟨g, 0, none⟩ ∧ d1 = c9 := by injection he9 with e1 e2 e3; exact ⟨e1, e3⟩
        obtain ⟨g2, c8, he8, _, _, _, _, hcells2, _⟩ := (HO2.out.dr HD.out).form (by omega)
        obtain ⟨rfl, rfl⟩ : D2 = some ⟨g2, 0, none⟩ ∧ d2 = c8 := by injection he8 with e1 e2 e3; exact ⟨e1, e3⟩
        obtain ⟨hca, hcb⟩ := hcells k hlt
        obtain ⟨hca2, hcb2⟩ := hcells2 k hlt
        have HC1 := Lib.hid hcells; clear hcells he9
        have HC2 := Lib.hid hcells2; clear hcells2 he8
        have j1 : (0 : Int) ≤ (k : Int) := by omega
        have j2 : (k : Int) < l.length := by omega
        generalize l.getD k (0, 0) = p at *
        obtain ⟨a, b⟩ := p
        simp only at hca hcb hca2 hcb2
        have hg := eq_guard
        have hq : ∀ W, (Op.equalIn 10000 50 (.agg #[.int .i64 a, .int .i64 b]) (.agg #[.int .i64 a, .int .i64 b])).run Try.prog W = .ok true W := fun W => eq_pair W a b
        go_wp2_with fail
        go_quiet (fail)
        go_wp2_with fail
        go_roundw
        case rel => exact ⟨k + 1, by omega, by go_num, HD.out.step _⟩
        case measure => simp [intOf]; omega
      · go_wp2_with fail
        refine (known_any _).mono ?_
        rintro e w4 ⟨rfl, hb4⟩
        have HB4 := Lib.hid hb4; clear hb4
        go_wp2_with fail
        go_ret
        have hb3 := Dr.below (HB1.out.trans (HB2.out.mono HB1.out.size)) HD.out
        exact ⟨rfl, hb3.trans (HB4.out.mono hb3.size)⟩
end Go.Proofs.Ytoldjpnkgdhpkaa
