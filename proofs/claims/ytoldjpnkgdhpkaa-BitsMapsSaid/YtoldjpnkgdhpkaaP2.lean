/- Ranges of the program. -/
import Derived.Test.YtoldjpnkgdhpkaaP
namespace Go.Proofs.Ytoldjpnkgdhpkaa
open Go.RowKit
set_option linter.unusedVariables false
set_option linter.unusedSimpArgs false

theorem rangesL_take (xs : List Int) {k : Nat} (h : k < xs.length) : rangesL (xs.take (k + 1)) = rgStep (rangesL (xs.take k)) (xs.getD k 0) := by
  rw [take_snoc xs h, rangesL_snoc]
theorem rg_nil (x : Int) : rgStep [] x = [(x, x)] := rfl
theorem rg_join {R : List (Int × Int)} {a b x : Int} (h : b = x - 1) : rgStep (R ++ [(a, b)]) x = R ++ [(a, x)] := by simp [rgStep, h]
theorem rg_new {R : List (Int × Int)} {a b x : Int} (h : ¬ b = x - 1) : rgStep (R ++ [(a, b)]) x = R ++ [(a, b)] ++ [(x, x)] := by simp [rgStep, h]

theorem OwnP.store1 {w : World} {base : Nat} {g c n : Nat} {rs : List (Int × Int)} {a b k : Int} (h : OwnP w base (.slice (some ⟨g, 0, none⟩) (rs ++ [(a, b)]).length c) (rs ++ [(a, b)])) (hn : n = rs.length + 1) :
    OwnP (w.setCell ⟨g, rs.length * 2 + 1, none⟩ (.int .i64 k)) base (.slice (some ⟨g, 0, none⟩) n c) (rs ++ [(a, k)]) := by
  have := h.store (k := k)
  rw [List.length_append] at this
  rw [hn]; exact this

set_option maxHeartbeats 1000000 in
theorem ranges_no (A : Option Addr) (c : Nat) (xs : List Int) (w : World) (h1 : Lk w w.heap.size A xs c) (hs : isSetB 300 xs = false) :
    Calls Try.prog 35 #[.slice A xs.length c] w fun e w' => e = .returned (.tuple #[.slice none 0 0, .int .i64 1]) ∧ w = w' := by
  have H1 := Lib.hid h1; clear h1
  go_enter Try.func35, Try.ntmps35
  go_wp2_with fail
  refine (isSet_any A c xs 300 _ _ H1.out.rd H1.out.i64 (by have := H1.out.len; omega)).mono ?_
  rintro e w' ⟨rfl, rfl⟩
  go_wp2_with fail
  go_ret2
  exact ⟨rfl, rfl⟩

set_option maxHeartbeats 4000000 in
theorem ranges_yes (A : Option Addr) (c : Nat) (xs : List Int) (w : World) (h1 : Lk w w.heap.size A xs c) (hs : isSetB 300 xs = true) :
    Calls Try.prog 35 #[.slice A xs.length c] w fun e w' => ∃ v, e = .returned (.tuple #[v, .int .i64 0]) ∧ OwnP w' w.heap.size v (rangesL xs) ∧ Below w.heap.size w w' := by
  have hS := (IsS.iff xs).1 hs
  have hlen := hS.length_le
  have HS := Lib.hid hS; clear hS
  have H1 := Lib.hid h1; clear h1
  go_enter Try.func35, Try.ntmps35
  go_wp2_with fail
  refine (isSet_any A c xs 300 _ _ H1.out.rd H1.out.i64 (by have := H1.out.len; omega)).mono ?_
  rintro e w' ⟨rfl, rfl⟩
  go_wp2_with fail
  go_loopw [4, 13] (fun v i wr => ∃ k : Nat, k ≤ xs.length ∧ i = .int .i64 k ∧ OwnP wr w.heap.size v (rangesL (xs.take k)) ∧ Below w.heap.size w wr) (fun _ i _ => xs.length - (intOf i).toNat)
  case atStart => exact ⟨0, by omega, rfl, by simpa [rangesL] using OwnP.nil _ _, Below.refl _ _⟩
  case round =>
    obtain ⟨k, hk, rfl, hown, hb⟩ := hrel
    have HB := Lib.hid hb; clear hb
    by_cases hlt : k < xs.length
    · obtain ⟨ad, rfl, _, hc⟩ := (H1.out.rd.below HB.out) (by omega)
      have hck := hc k hlt
      have HC := Lib.hid hc; clear hc
      have hst := rangesL_take xs hlt
      have hx := HS.out.1 (xs.getD k 0) (by rw [List.getD, List.getElem?_eq_getElem hlt]; exact List.getElem_mem hlt)
      have hrl : (rangesL (xs.take k)).length ≤ 300 := Nat.le_trans (rangesL_len _) (by simp; omega)
      generalize xs.getD k 0 = x at *
      generalize rangesL (xs.take k) = acc at *
      rcases List.eq_nil_or_concat acc with rfl | ⟨R, ⟨a, b⟩, rfl⟩
      · obtain ⟨A', c', rfl, _⟩ := hown.out
        rw [rg_nil] at hst
        have HST := Lib.hid hst; clear hst
        have HO := Lib.hid hown; clear hown
        simp only [List.length_nil]
        go_wp2_with (at_builtin; refine app_pair rfl _ _ rfl w.heap.size _ _ x x rfl (HO.out.alloc _) ⟨wr.heap.size, 0, none⟩ 1 rfl (Bk.new _ _ _ |>.cell 0) (Bk.new _ _ _ |>.cell 1) (by simp) (size_alloc HB.out.size _) ?_; intro v' w' hown' hb')
        go_roundw
        case rel => exact ⟨k + 1, by omega, by go_num, hown'.of_eq HST.out.symm, (HB.out.alloc HB.out.size _).trans (hb'.mono (Nat.le_refl _))⟩
        case measure => simp [intOf]; omega
      · rw [List.concat_eq_append] at *
        have hn : 0 < (R ++ [(a, b)]).length := by simp
        obtain ⟨g, c', rfl, hg1, hg2, _, _, hcells, hfree⟩ := hown.form hn
        have hcb := (hcells R.length (by simp)).2
        have hfb := hfree (R.length * 2 + 1) (by simp; omega)
        have HCE := Lib.hid hcells; clear hcells hfree
        have hgd : (R ++ [(a, b)]).getD R.length (0, 0) = (a, b) := by simp [List.getD]
        rw [hgd] at hcb
        clear hgd
        have HO := Lib.hid hown; clear hown
        simp only [List.length_append, List.length_cons, List.length_nil, Nat.zero_add] at hrl ⊢
        by_cases hbx : b = x - 1
        · have d : (b == x - 1) = true := by simpa using hbx
          have hst' := hst.trans (rg_join hbx)
          have HST := Lib.hid hst'; clear hst' hst
          have HBX := Lib.hid hbx; clear hbx
          go_wp2
          go_roundw
          case rel => exact ⟨k + 1, by omega, by go_num, (HO.out.store1 rfl).of_eq HST.out.symm, HB.out.setCell hg1 _⟩
          case measure => simp [intOf]; omega
        · have d : (b == x - 1) = false := by simpa using hbx
          have hst' := hst.trans (rg_new hbx)
          have HST := Lib.hid hst'; clear hst' hst
          have HBX := Lib.hid hbx; clear hbx
          have hown2 : OwnP wr w.heap.size (.slice (some ⟨g, 0, none⟩) (R.length + 1) c') (R ++ [(a, b)]) := by
            have := HO.out
            rw [List.length_append] at this
            exact this
          have HO2 := Lib.hid hown2; clear hown2
          go_wp2_with (at_builtin; refine app_pair rfl _ _ rfl w.heap.size _ _ x x rfl (HO2.out.alloc _) ⟨wr.heap.size, 0, none⟩ 1 rfl (Bk.new _ _ _ |>.cell 0) (Bk.new _ _ _ |>.cell 1) (by simp only [List.length_append, List.length_cons, List.length_nil]; omega) (size_alloc HB.out.size _) ?_; intro v' w' hown' hb')
          go_roundw
          case rel => exact ⟨k + 1, by omega, by go_num, hown'.of_eq HST.out.symm, (HB.out.alloc HB.out.size _).trans (hb'.mono (Nat.le_refl _))⟩
          case measure => simp [intOf]; omega
    · have hkl : k = xs.length := by omega
      have HK := Lib.hid hkl; clear hkl
      have HO := Lib.hid hown; clear hown
      go_wp2
      go_ret2
      exact ⟨_, rfl, HO.out.of_eq (by rw [HK.out, List.take_length]), HB.out⟩
end Go.Proofs.Ytoldjpnkgdhpkaa
