/- Ranges of the reference. -/
import Derived.Test.YtoldjpnkgdhpkaaSm
import Derived.Test.YtoldjpnkgdhpkaaP2
import Derived.Deep.RegionLaw
import Derived.Deep.RegionHeld3
import Derived.Deep.DrawnRows
import Derived.IntWalk
namespace Go.Proofs.Ytoldjpnkgdhpkaa
open Go.RowKit
set_option linter.unusedVariables false
set_option linter.unusedSimpArgs false
attribute [local go_sem ↓] Go.wp_at_zero Go.wp_at_succ

theorem _root_.Go.Below.drewN {B : Nat} {a b : World} (h : Below B a b) (n : Nat) : Below B a (b.drewN n) := Dr.below h ⟨n, rfl⟩
theorem step_pair {w : World} {ops : Array Oper} {o : Oper} {a : Act} {K : Act → World → Prop} {Q : Exit → Act → World → Prop} {E : Prop} (hgd : o.guard = none) (s x : Operand)
    (ho : o.op = .call { callee := .builtin .append, args := #[s, x], argTypes := #[47, 47] })
    (base : Nat) (v : Value) (rs : List (Int × Int)) (p q : Int) (hs : a.eval s = v) (hown : OwnP w base v rs)
    (ad : Addr) (c : Nat) (hx : a.eval x = .slice (some ad) 1 c) (hc : w.cell? ad = some (.int .i64 p)) (hc2 : w.cell? (ad.add 1) = some (.int .i64 q)) (hlen : rs.length ≤ 1000000) (hbase : base ≤ w.heap.size)
    (h : ∀ v' w', OwnP w' base v' (rs ++ [(p, q)]) → Below base w w' → K (a.put o.dst v') w') :
    if Region.wanted o (yielded ops a.tmps) = true then Oper.wp Try.prog o a w K Q else E := by
  have hw : Region.wanted o (yielded ops a.tmps) = true := by simp [Region.wanted, hgd]
  rw [if_pos hw]
  obtain ⟨i0, hi0, hz0, hz1, hz2⟩ := info_parts infoP
  refine wp_append_own w s x 47 ho base 50 i0 _ 2 16 Try.underlying47 hi0 hz0 hz1 hz2 rfl (by decide) v rs.length _ hs hown ad 1 c [.int .i64 p, .int .i64 q] hx rfl ?_ ?_ (by simp only [maxLen]; omega) (by omega) hbase ?_
  · intro j u hu
    rcases j with _ | _ | j
    · simp at hu; subst hu; simpa [Addr.add] using hc
    · simp at hu; subst hu; exact hc2
    · simp at hu
  · intro u hu; simp at hu; rcases hu with rfl | rfl <;> rfl
  · intro v' w' hown' hg _
    refine h v' w' (by unfold OwnP; rw [pcells_append]; simpa [pcells] using hown') ((Below.refl _ _).grown hg hbase fun g hg' => (hown.block hg').1)

theorem last_of_take {xs : List Int} {k : Nat} (h : k < xs.length) (hk : 0 < k) : ∃ R a, rangesL (xs.take k) = R ++ [(a, xs.getD (k - 1) 0)] := by
  obtain ⟨j, rfl⟩ : ∃ j, k = j + 1 := ⟨k - 1, by omega⟩
  rw [take_snoc xs (by omega), Nat.add_sub_cancel]
  obtain ⟨a, ha⟩ := rangesL_last (xs.take j) (xs.getD j 0)
  generalize rangesL (xs.take j ++ [xs.getD j 0]) = L at *
  rcases List.eq_nil_or_concat L with rfl | ⟨R, p, rfl⟩
  · simp at ha
  · rw [List.concat_eq_append] at *
    rw [List.getLast?_concat] at ha
    injection ha with ha
    exact ⟨R, a, by rw [ha]⟩

set_option maxHeartbeats 1000000 in
theorem refRanges_no (A : Option Addr) (c : Nat) (xs : List Int) (w : World) (h1 : Lk w w.heap.size A xs c) (hs : isSetB 300 xs = false) :
    Calls Try.prog 36 #[.slice A xs.length c] w fun e w' => e = .returned (.tuple #[.slice none 0 0, .int .i64 1]) ∧ Dr w w' := by
  have H1 := Lib.hid h1; clear h1
  go_enter Try.func36, Try.ntmps36
  go_wp2_with fail
  refine (refIsSet_any A c xs _ _ H1.out.rd H1.out.i64 (by have := H1.out.len; omega)).mono ?_
  rintro e w' ⟨rfl, n1, rfl⟩
  go_wp2_with fail
  go_ret2
  exact ⟨rfl, ⟨_, rfl⟩⟩

set_option maxHeartbeats 4000000 in
theorem refRanges_yes (A : Option Addr) (c : Nat) (xs : List Int) (w : World) (h1 : Lk w w.heap.size A xs c) (hs : isSetB 300 xs = true) :
    Calls Try.prog 36 #[.slice A xs.length c] w fun e w' => ∃ v, e = .returned (.tuple #[v, .int .i64 0]) ∧ OwnP w' w.heap.size v (rangesL xs) ∧ Below w.heap.size w w' := by
  have hS := (IsS.iff xs).1 hs
  have hlen := hS.length_le
  have HS := Lib.hid hS; clear hS
  have H1 := Lib.hid h1; clear h1
  go_enter Try.func36, Try.ntmps36
  go_wp2_with fail
  refine (refIsSet_any A c xs _ _ H1.out.rd H1.out.i64 (by have := H1.out.len; omega)).mono ?_
  rintro e w' ⟨rfl, n1, rfl⟩
  go_wp2_with fail
  go_loopw [4, 5] (fun v i wr => ∃ k : Nat, k ≤ xs.length ∧ i = .int .i64 k ∧ OwnP wr w.heap.size v (rangesL (xs.take k)) ∧ Below w.heap.size w wr) (fun _ i _ => xs.length - (intOf i).toNat)
  case atStart => exact ⟨0, by omega, rfl, by simpa [rangesL] using OwnP.nil _ _, Dr.below (Below.refl _ _) ⟨_, rfl⟩⟩
  case round =>
    obtain ⟨k, hk, rfl, hown, hb⟩ := hrel
    have HB := Lib.hid hb; clear hb
    by_cases hlt : k < xs.length
    · obtain ⟨ad, rfl, _, hc⟩ := (H1.out.rd.below HB.out) (by omega)
      have hck := hc k hlt
      have hck1 : 0 < k → wr.cell? (ad.add (k - 1)) = some (.int .i64 (xs.getD (k - 1) 0)) := fun h => hc (k - 1) (by omega)
      have HC := Lib.hid hc; clear hc
      obtain ⟨ad', hade, hadb, hcw⟩ := H1.out.rd (by omega)
      have HCW := Lib.hid (hcw k hlt); clear hcw
      obtain rfl : ad = ad' := by injection hade
      have hadk : (ad.add k).block < w.heap.size := by rw [block_of_plus]; exact hadb
      clear hade
      have hst := rangesL_take xs hlt
      have hx := HS.out.1 (xs.getD k 0) (by rw [List.getD, List.getElem?_eq_getElem hlt]; exact List.getElem_mem hlt)
      have hrl : (rangesL (xs.take k)).length ≤ 300 := Nat.le_trans (rangesL_len _) (by simp; omega)
      have j1 : (0 : Int) ≤ (k : Int) := by omega
      have j2 : (k : Int) < xs.length := by omega
      by_cases hk0 : k = 0
      · have hnil : rangesL (xs.take k) = [] := by subst hk0; simp [rangesL]
        have d0 : ((k : Int) == 0) = true := by rw [beq_iff_eq]; omega
        have HK0 := Lib.hid hk0; clear hk0
        rw [hnil] at hst hown
        rw [rg_nil] at hst
        clear hnil hrl hck1
        generalize xs.getD k 0 = x at *
        obtain ⟨A', c', rfl, _⟩ := hown.out
        have HST := Lib.hid hst; clear hst
        have HO := Lib.hid hown; clear hown
        have hrl9 : ([] : List (Int × Int)).length ≤ 1000000 := by simp
        simp only [List.length_nil]
        go_wp2
        go_quiet (fail)
        go_wp2
        have hdq : Dr wr (wr.drewN nq) := ⟨nq, rfl⟩
        generalize wr.drewN nq = wq at *
        have HOq := Lib.hid (HO.out.dr hdq)
        have hckq : wq.cell? (ad.add k) = some (.int .i64 x) := (hdq.cell _).trans hck
        have HBq := Lib.hid (Dr.below HB.out hdq); clear hdq hck
        go_region_held3 (fun y => y.cell? (ad.add k) = some (.int .i64 x)) (first | exact hckq | go_keep)
          ((refine step_pair (by rfl) _ _ (by rfl) w.heap.size _ _ x x (by rfl) ((HOq.out.alloc _).dr ⟨1, rfl⟩) ⟨wq.heap.size, 0, none⟩ 1 (by rfl) (Bk.new _ _ _ |>.cell 0) (Bk.new _ _ _ |>.cell 1) hrl9 (size_alloc HBq.out.size _) ?_; intro v' w' hown' hb'; have hbx := Lib.hid (((HBq.out.alloc HBq.out.size _).drew).trans hb'); have hckq : w'.cell? (ad.add k) = some (.int .i64 x) := (hbx.out.cell hadk).trans HCW.out))
        have HOw := Lib.hid hown'
        clear hown' hb'
        have hn9 : 0 < (([] : List (Int × Int)) ++ [(x, x)]).length := by simp
        obtain ⟨g, c9, hv9, hg1, hg2, _, _, hcells, hfree⟩ := HOw.out.form hn9
        have hl9 : (([] : List (Int × Int)) ++ [(x, x)]).length = (([] : List (Int × Int))).length + 1 := by simp
        have hO9 : OwnP w' w.heap.size (.slice (some ⟨g, 0, none⟩) ((([] : List (Int × Int)) ++ [(x, x)]).length) c9) (([] : List (Int × Int)) ++ [(x, x)]) := by
          have h := HOw.out
          rw [hv9] at h
          exact h
        have HO9 := Lib.hid hO9; clear hO9
        rw [hl9] at hv9
        have hcb9 : w'.cell? ⟨g, (([] : List (Int × Int))).length * 2 + 1, none⟩ = some (.int .i64 x) := by
          have := (hcells (([] : List (Int × Int))).length (by simp)).2
          have hgd : (([] : List (Int × Int)) ++ [(x, x)]).getD (([] : List (Int × Int))).length (0, 0) = (x, x) := by simp [List.getD]
          rw [hgd] at this; exact this
        have hfb9 := hfree ((([] : List (Int × Int))).length * 2 + 1) (by rw [hl9]; omega)
        have HX9 := Lib.hid hv9; clear hcells hfree hn9 hl9
        rw [show ([] : List (Int × Int)).length + 1 = 1 from rfl] at hv9
        subst hv9
        clear HX9
        simp only [List.length_nil, Nat.zero_mul, Nat.zero_add] at hcb9 hfb9
        have z1 : IntKind.i64.wrap 0 = 0 := by decide
        have z2 : (0 : Int) < 1 := by decide
        have z3 : IntKind.i64.wrap (1 - 1) = 0 := by decide
        go_wp2
        have hadg : (ad.add k).block ≠ g := by omega
        go_region_held3 (fun y => y.cell? (ad.add k) = some (.int .i64 x)) (first | exact hckq | exact (World.cell?_setCell_other _ _ _ _ (fun e => hadg (by rw [← e]))).trans hckq | go_keep)
          (fail)
        go_wp2
        go_roundw
        case rel => exact ⟨k + 1, by omega, by go_num, ((HO9.out.store1 rfl).dr ⟨1, rfl⟩).of_eq HST.out.symm, Dr.below (hbx.out.setCell (p := ⟨g, 1, none⟩) hg1 _) ⟨1, rfl⟩⟩
        case measure => simp [intOf]; omega
      · obtain ⟨R, a, hR⟩ := last_of_take hlt (by omega)
        have d0 : ((k : Int) == 0) = false := by rw [beq_eq_false_iff_ne]; omega
        have hckp := hck1 (by omega)
        have j3 : (0 : Int) ≤ (k : Int) - 1 := by omega
        have j4 : (k : Int) - 1 < xs.length := by omega
        have hb0 := HS.out.1 (xs.getD (k - 1) 0) (by rw [List.getD, List.getElem?_eq_getElem (show k - 1 < xs.length by omega)]; exact List.getElem_mem _)
        have HK0 := Lib.hid hk0; clear hk0 hck1
        rw [hR] at hst hown hrl
        clear hR
        generalize xs.getD k 0 = x at *
        generalize xs.getD (k - 1) 0 = b at *
        obtain ⟨A', c', rfl, _⟩ := hown.out
        by_cases hbx : b = x - 1
        · have d1 : (x != b + 1) = false := by simp; omega
          have hst' := hst.trans (rg_join hbx)
          have HST := Lib.hid hst'; clear hst' hst hbx
          have HO := Lib.hid hown; clear hown
          have hl9 : (R ++ [(a, b)]).length = R.length + 1 := by simp
          rw [hl9]
          clear hl9
          go_wp2
          go_quiet (fail)
          go_wp2
          have hdq : Dr wr (wr.drewN nq) := ⟨nq, rfl⟩
          generalize wr.drewN nq = wq at *
          have HOq := Lib.hid (HO.out.dr hdq)
          have hckq : wq.cell? (ad.add k) = some (.int .i64 x) := (hdq.cell _).trans hck
          have HBq := Lib.hid (Dr.below HB.out hdq); clear hdq hck
          have hn9 : 0 < (R ++ [(a, b)]).length := by simp
          obtain ⟨g, c9, hv9, hg1, hg2, _, _, hcells, hfree⟩ := HOq.out.form hn9
          have hl9 : (R ++ [(a, b)]).length = (R).length + 1 := by simp
          have hO9 : OwnP wq w.heap.size (.slice (some ⟨g, 0, none⟩) ((R ++ [(a, b)]).length) c9) (R ++ [(a, b)]) := by
            have h := HOq.out
            rw [hv9] at h
            exact h
          have HO9 := Lib.hid hO9; clear hO9
          rw [hl9] at hv9
          have hcb9 : wq.cell? ⟨g, (R).length * 2 + 1, none⟩ = some (.int .i64 b) := by
            have := (hcells (R).length (by simp)).2
            have hgd : (R ++ [(a, b)]).getD (R).length (0, 0) = (a, b) := by simp [List.getD]
            rw [hgd] at this; exact this
          have hfb9 := hfree ((R).length * 2 + 1) (by rw [hl9]; omega)
          have HX9 := Lib.hid hv9; clear hcells hfree hn9 hl9
          obtain ⟨rfl, rfl⟩ : A' = some ⟨g, 0, none⟩ ∧ c' = c9 := by simpa using HX9.out
          clear HX9
          have hrw : IntKind.i64.wrap ((R.length : Int) + 1 - 1) = R.length := by
            rw [IntWalk.i64_in _ (by first | omega | (simp at hrl; omega))]; omega
          have hrw2 : IntKind.i64.wrap (R.length : Int) = R.length := by
            rw [IntWalk.i64_in _ (by first | omega | (simp at hrl; omega))]
          have hz1 : (0 : Int) ≤ (R.length : Int) := by omega
          have hz2 : (R.length : Int) < (R.length : Int) + 1 := by omega
          go_wp2
          have hadg : (ad.add k).block ≠ g := by omega
          go_region_held3 (fun y => y.cell? (ad.add k) = some (.int .i64 x)) (first | exact hckq | exact (World.cell?_setCell_other _ _ _ _ (fun e => hadg (by rw [← e]))).trans hckq | go_keep)
            (fail)
          go_wp2
          go_roundw
          case rel => exact ⟨k + 1, by omega, by go_num, ((HO9.out.store1 rfl).dr ⟨1, rfl⟩).of_eq HST.out.symm, Dr.below (HBq.out.setCell (p := ⟨g, R.length * 2 + 1, none⟩) hg1 _) ⟨1, rfl⟩⟩
          case measure => simp [intOf]; omega
        · have d1 : (x != b + 1) = true := by simp; omega
          have hst' := hst.trans (rg_new hbx)
          have HST := Lib.hid hst'; clear hst' hst hbx
          have hrl9 : (R ++ [(a, b)]).length ≤ 1000000 := by omega
          have hl9 : (R ++ [(a, b)]).length = R.length + 1 := by simp
          have hown2 : OwnP wr w.heap.size (.slice A' (R.length + 1) c') (R ++ [(a, b)]) := by
            rw [hl9] at hown
            exact hown
          have HO := Lib.hid hown2; clear hown hown2
          rw [hl9]
          clear hl9
          go_wp2
          go_quiet (fail)
          go_wp2
          have hdq : Dr wr (wr.drewN nq) := ⟨nq, rfl⟩
          generalize wr.drewN nq = wq at *
          have HOq := Lib.hid (HO.out.dr hdq)
          have hckq : wq.cell? (ad.add k) = some (.int .i64 x) := (hdq.cell _).trans hck
          have HBq := Lib.hid (Dr.below HB.out hdq); clear hdq hck
          go_region_held3 (fun y => y.cell? (ad.add k) = some (.int .i64 x)) (first | exact hckq | go_keep)
            ((refine step_pair (by rfl) _ _ (by rfl) w.heap.size _ _ x x (by rfl) ((HOq.out.alloc _).dr ⟨1, rfl⟩) ⟨wq.heap.size, 0, none⟩ 1 (by rfl) (Bk.new _ _ _ |>.cell 0) (Bk.new _ _ _ |>.cell 1) hrl9 (size_alloc HBq.out.size _) ?_; intro v' w' hown' hb'; have hbx := Lib.hid (((HBq.out.alloc HBq.out.size _).drew).trans hb'); have hckq : w'.cell? (ad.add k) = some (.int .i64 x) := (hbx.out.cell hadk).trans HCW.out))
          have HOw := Lib.hid hown'
          clear hown' hb'
          generalize R ++ [(a, b)] = R9 at *
          have hn9 : 0 < (R9 ++ [(x, x)]).length := by simp
          obtain ⟨g, c9, hv9, hg1, hg2, _, _, hcells, hfree⟩ := HOw.out.form hn9
          have hl9 : (R9 ++ [(x, x)]).length = (R9).length + 1 := by simp
          have hO9 : OwnP w' w.heap.size (.slice (some ⟨g, 0, none⟩) ((R9 ++ [(x, x)]).length) c9) (R9 ++ [(x, x)]) := by
            have h := HOw.out
            rw [hv9] at h
            exact h
          have HO9 := Lib.hid hO9; clear hO9
          rw [hl9] at hv9
          have hcb9 : w'.cell? ⟨g, (R9).length * 2 + 1, none⟩ = some (.int .i64 x) := by
            have := (hcells (R9).length (by simp)).2
            have hgd : (R9 ++ [(x, x)]).getD (R9).length (0, 0) = (x, x) := by simp [List.getD]
            rw [hgd] at this; exact this
          have hfb9 := hfree ((R9).length * 2 + 1) (by rw [hl9]; omega)
          have HX9 := Lib.hid hv9; clear hcells hfree hn9 hl9
          subst hv9
          clear HX9
          have hrw : IntKind.i64.wrap ((R9.length : Int) + 1 - 1) = R9.length := by
            rw [IntWalk.i64_in _ (by first | omega | (simp at hrl; omega))]; omega
          have hrw2 : IntKind.i64.wrap (R9.length : Int) = R9.length := by
            rw [IntWalk.i64_in _ (by first | omega | (simp at hrl; omega))]
          have hz1 : (0 : Int) ≤ (R9.length : Int) := by omega
          have hz2 : (R9.length : Int) < (R9.length : Int) + 1 := by omega
          go_wp2
          have hadg : (ad.add k).block ≠ g := by omega
          go_region_held3 (fun y => y.cell? (ad.add k) = some (.int .i64 x)) (first | exact hckq | exact (World.cell?_setCell_other _ _ _ _ (fun e => hadg (by rw [← e]))).trans hckq | go_keep)
            (fail)
          go_wp2
          go_roundw
          case rel => exact ⟨k + 1, by omega, by go_num, ((HO9.out.store1 rfl).dr ⟨1, rfl⟩).of_eq HST.out.symm, Dr.below (hbx.out.setCell (p := ⟨g, R9.length * 2 + 1, none⟩) hg1 _) ⟨1, rfl⟩⟩
          case measure => simp [intOf]; omega
    · have hkl : k = xs.length := by omega
      have HK := Lib.hid hkl; clear hkl
      have HO := Lib.hid hown; clear hown
      go_wp2
      go_ret2
      exact ⟨_, rfl, HO.out.of_eq (by rw [HK.out, List.take_length]), HB.out⟩
end Go.Proofs.Ytoldjpnkgdhpkaa
