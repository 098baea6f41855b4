/- Known, Settle and Doubt, of the program and the reference. -/
import Derived.Test.YtjlbodfdkdhdnabSe
import Derived.Deep.RegionHeld3
import Derived.Deep.DrawnRows
namespace Go.Proofs.Ytjlbodfdkdhdnab
open Go.RowKit
set_option linter.unusedVariables false
set_option linter.unusedSimpArgs false
attribute [local go_sem ↓] Go.wp_at_zero Go.wp_at_succ

theorem Own.up {w : World} {b base : Nat} {e : TypeId} {k : IntKind} {v : Value} {zs : List Int} (h : Own w base e k v zs) : Own w base e k v zs := h
def setN (l : List Int) : Int := if isSetB 300 l then 0 else 1
def setL (l : List Int) : List Int := if isSetB 300 l then l else []

set_option maxHeartbeats 2000000 in
theorem known_ok (A : Option Addr) (c : Nat) (l : List Int) (w : World) (h : Lk w w.heap.size A l c) (hs : isSetB 300 l = true) :
    Calls Try.prog 32 #[.slice A l.length c] w (KRes w l l 0) := by
  have H := Lib.hid h; clear h
  go_enter Try.func32, Try.ntmps32
  go_wp2_with fail
  refine (isSet_any A c l 300 _ _ (H.out.alloc (Nat.le_refl _) _).rd H.out.i64 (by have := H.out.len; omega)).mono ?_
  rintro e w' ⟨rfl, rfl⟩
  go_wp2_with fail
  refine (clone_any A c l _ ((H.out.alloc (Nat.le_refl _) _).more (by simp))).mono ?_
  rintro e x1 ⟨v1, rfl, ho1, hb1⟩
  obtain ⟨D1, d1, rfl, _⟩ := ho1.out
  obtain ⟨k1, hz1, hw1⟩ := one_of hb1
  have HO1 := Lib.hid ho1; clear ho1
  have HW1 := Lib.hid hw1; clear hw1
  have HB1 := Lib.hid hb1; clear hb1
  go_wp2_with fail
  refine (clone_any A c l _ ((H.out.below HW1.out).more (by omega))).mono ?_
  rintro e x2 ⟨v2, rfl, ho2, hb2⟩
  obtain ⟨D2, d2, rfl, _⟩ := ho2.out
  obtain ⟨r0, r1, f0, f1⟩ := two_cells (k1.below hb2 (by omega))
  have K1 := Lib.hid k1; clear k1
  have HO1' := Lib.hid (HO1.out.below hb2 (Nat.le_refl _)); clear HO1
  have HO2 := Lib.hid ho2; clear ho2
  have hz2 : w.heap.size + 1 ≤ x2.heap.size := by have := hb2.size; omega
  have HW2 := Lib.hid (HW1.out.trans (hb2.mono (by omega))); clear hb2
  go_wp2_with fail
  refine bodyPost_ret (v := .tuple #[.agg #[.slice D1 (l).length d1, .slice D2 (l).length d2], .int .i64 0]) (by simp [results, Try.results32, go_sem, r0, r1, f0, f1]) rfl ⟨_, _, _, _, rfl, ?_, ?_, ?_⟩
  · exact ((HO1'.out.setCell (by first | (simp; done) | (simp; omega)) _).setCell (by first | (simp; done) | (simp; omega)) _).low (by first | omega | (simp; done) | (simp; omega))
  · exact ((HO2.out.setCell (by first | (simp; done) | (simp; omega)) _).setCell (by first | (simp; done) | (simp; omega)) _).low (by first | omega | (simp; done) | (simp; omega))
  · exact (HW2.out.setCell (by first | (simp; done) | (simp; omega)) _).setCell (by first | (simp; done) | (simp; omega)) _

set_option maxHeartbeats 2000000 in
theorem known_no (A : Option Addr) (c : Nat) (l : List Int) (w : World) (h : Lk w w.heap.size A l c) (hs : isSetB 300 l = false) :
    Calls Try.prog 32 #[.slice A l.length c] w (KRes w [] [] 1) := by
  have H := Lib.hid h; clear h
  go_enter Try.func32, Try.ntmps32
  go_wp2_with fail
  refine (isSet_any A c l 300 _ _ (H.out.alloc (Nat.le_refl _) _).rd H.out.i64 (by have := H.out.len; omega)).mono ?_
  rintro e w' ⟨rfl, rfl⟩
  go_wp2_with fail
  exact bodyPost_ret (v := .tuple #[.agg #[.slice none 0 0, .slice none 0 0], .int .i64 1]) (by simp [results, Try.results32, go_sem]) rfl ⟨none, 0, none, 0, rfl, Own.nil _ _ _ _, Own.nil _ _ _ _, Below.of_alloc _ _ _ (Nat.le_refl _)⟩
theorem knownS_any (A : Option Addr) (c : Nat) (l : List Int) (w : World) (h : Lk w w.heap.size A l c) :
    Calls Try.prog 32 #[.slice A l.length c] w (KRes w (setL l) (setL l) (setN l)) := by
  unfold setL setN
  cases hs : isSetB 300 l
  · exact known_no A c l w h hs
  · exact known_ok A c l w h hs

set_option maxHeartbeats 2000000 in
theorem refKnown_ok (A : Option Addr) (c : Nat) (l : List Int) (w : World) (h : Lk w w.heap.size A l c) (hs : isSetB 300 l = true) :
    Calls Try.prog 33 #[.slice A l.length c] w (KRes w l l 0) := by
  have hl := h.len
  have H := Lib.hid h; clear h
  go_enter Try.func33, Try.ntmps33
  go_wp2_with fail
  refine (refIsSet_any A c l _ _ (H.out.alloc (Nat.le_refl _) _).rd H.out.i64 (by have := H.out.len; omega)).mono ?_
  rintro e y ⟨rfl, hd⟩
  have ky : Bk y w.heap.size 24 #[.slice none 0 0, .slice none 0 0] := (Bk.new w _ _).dr hd
  have hwy : Below w.heap.size w y := Dr.below (Below.of_alloc _ _ _ (Nat.le_refl _)) hd
  have hzy : w.heap.size + 1 ≤ y.heap.size := by obtain ⟨n, rfl⟩ := hd; simp
  have KY := Lib.hid ky; clear ky
  have HY := Lib.hid hwy; clear hwy hd
  go_wp2_with (first
    | (at_builtin; refine app_ints rfl (.const (.slice none 0 0)) (.tmp 8) rfl y.heap.size _ [] l rfl (Own.nil _ _ _ _) A l.length c rfl rfl w.heap.size (H.out.below HY.out).rd (by simp) (by omega) (Nat.le_refl _) ?_; intro v1 x1 ho1 hb1; obtain ⟨D1, d1, rfl, _⟩ := ho1.out; have HO1 := Lib.hid ho1; clear ho1; have HB1 := Lib.hid hb1; clear hb1; have hs1 := HB1.out.size)
    | (at_builtin; refine app_ints rfl (.const (.slice none 0 0)) (.tmp 10) rfl x1.heap.size _ [] l rfl (Own.nil _ _ _ _) A l.length c rfl rfl w.heap.size ((H.out.below HY.out).rd.below (HB1.out.mono (by omega))) (by simp) (by omega) (Nat.le_refl _) ?_; intro v2 x2 ho2 hb2; obtain ⟨D2, d2, rfl, _⟩ := ho2.out; have k2 := (KY.out.below HB1.out (by omega)).below hb2 (by omega); obtain ⟨r0, r1, f0, f1⟩ := two_cells k2; have HO1' := Lib.hid (HO1.out.below hb2 (Nat.le_refl _)); have HO2 := Lib.hid ho2; clear ho2; have hs2 := hb2.size; have HW2 := Lib.hid ((HY.out.trans (HB1.out.mono (by omega))).trans (hb2.mono (by omega))); clear hb2 k2))
  simp only [List.nil_append] at HO1' HO2 ⊢
  refine bodyPost_ret (v := .tuple #[.agg #[.slice D1 (l).length d1, .slice D2 (l).length d2], .int .i64 0]) (by simp [results, Try.results33, go_sem, r0, r1, f0, f1]) rfl ⟨_, _, _, _, rfl, ?_, ?_, ?_⟩
  · exact ((HO1'.out.setCell (by first | (simp; done) | (simp; omega)) _).setCell (by first | (simp; done) | (simp; omega)) _).low (by first | omega | (simp; done) | (simp; omega))
  · exact ((HO2.out.setCell (by first | (simp; done) | (simp; omega)) _).setCell (by first | (simp; done) | (simp; omega)) _).low (by first | omega | (simp; done) | (simp; omega))
  · exact (HW2.out.setCell (by first | (simp; done) | (simp; omega)) _).setCell (by first | (simp; done) | (simp; omega)) _

set_option maxHeartbeats 2000000 in
theorem refKnown_no (A : Option Addr) (c : Nat) (l : List Int) (w : World) (h : Lk w w.heap.size A l c) (hs : isSetB 300 l = false) :
    Calls Try.prog 33 #[.slice A l.length c] w (KRes w [] [] 1) := by
  have H := Lib.hid h; clear h
  go_enter Try.func33, Try.ntmps33
  go_wp2_with fail
  refine (refIsSet_any A c l _ _ (H.out.alloc (Nat.le_refl _) _).rd H.out.i64 (by have := H.out.len; omega)).mono ?_
  rintro e y ⟨rfl, n1, rfl⟩
  go_wp2_with fail
  exact bodyPost_ret (v := .tuple #[.agg #[.slice none 0 0, .slice none 0 0], .int .i64 1]) (by simp [results, Try.results33, go_sem]) rfl ⟨none, 0, none, 0, rfl, Own.nil _ _ _ _, Own.nil _ _ _ _, ((Dr.below (Below.of_alloc w (.cells #[.slice none 0 0, .slice none 0 0] 24) _ (Nat.le_refl _)) ⟨n1, rfl⟩).setCell (by simp) _).setCell (by simp) _⟩
theorem refKnownS_any (A : Option Addr) (c : Nat) (l : List Int) (w : World) (h : Lk w w.heap.size A l c) :
    Calls Try.prog 33 #[.slice A l.length c] w (KRes w (setL l) (setL l) (setN l)) := by
  unfold setL setN
  cases hs : isSetB 300 l
  · exact refKnown_no A c l w h hs
  · exact refKnown_ok A c l w h hs
end Go.Proofs.Ytjlbodfdkdhdnab
