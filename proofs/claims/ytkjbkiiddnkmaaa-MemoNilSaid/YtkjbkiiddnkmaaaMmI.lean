/- Get at any entries; Put at none. -/
import Derived.Test.YtkjbkiiddnkmaaaMmH
import Derived.WalkSpells
namespace Go.Proofs.Ytkjbkiiddnkmaaa
open Go.RowKit Go.Shelf
set_option linter.unusedVariables false
set_option linter.unusedSimpArgs false
set_option maxRecDepth 100000

theorem Mm.lock {w : World} {g : Nat} {l z : Int} {v : Value} (l' : Int) (h : Mm w g l z v) : Mm (w.setCell ⟨g, 0, none⟩ (.int .i32 l')) g l' z v := by
  obtain ⟨h0, h2, h3, f0, f3, hg⟩ := h
  refine ⟨World.cell?_setCell_same _ _ _ h0, (World.cell?_setCell_other _ _ _ _ (by simp)).trans h2, (World.cell?_setCell_other _ _ _ _ (by simp)).trans h3, by simp [f0], by simp [f3], by simpa using hg⟩
theorem Es.other {w : World} {b g o : Nat} {es : List E3} {u : Value} (h : Es w b es) (hb : b ≠ g) : Es (w.setCell ⟨g, o, none⟩ u) b es := fun j hj =>
  ⟨(World.cell?_setCell_other _ _ _ _ (by simp; try omega)).trans (h j hj).1, (World.cell?_setCell_other _ _ _ _ (by simp; try omega)).trans (h j hj).2.1, (World.cell?_setCell_other _ _ _ _ (by simp; try omega)).trans (h j hj).2.2⟩
def GetP (es : List E3) (blk : Int) (s : ByteArray) (e : Int) : Prop :=
  (e = 0 ∧ ∃ x : Fin es.length, matchE es blk x = true ∧ s = es[x.1].2.2) ∨ (e = 4 ∧ s = ⟨#[]⟩ ∧ ∀ x : Fin es.length, matchE es blk x = false)
def GetRes (n₀ g b : Nat) (z : Int) (v : Value) (es : List E3) (blk : Int) (w : World) (e : Ending) (w' : World) : Prop :=
  ∃ s er, e = .returned (.tuple #[.string s, .int .i64 er]) ∧ GetP es blk s er ∧ Below n₀ w w' ∧ Mm w' g 0 z v ∧ Es w' b es
set_option maxHeartbeats 4000000 in
theorem Get_any (n₀ g b cap : Nat) (z : Int) (es : List E3) (blk : Int) (w : World) (hn : n₀ ≤ g) (hz : z ≠ 0) (hfew : Few es) (hle : es.length ≤ 5000) (hm : Mm w g 0 z (.slice (some ⟨b, 0, none⟩) es.length cap)) (hb : b < w.heap.size) (hbg : b ≠ g) (he : Es w b es) :
    Calls Try.prog 26 #[.pointer (some ⟨g, 0, none⟩), .int .i64 blk] w (GetRes n₀ g b z (.slice (some ⟨b, 0, none⟩) es.length cap) es blk w) := by
  have C1 := Lib.hid (isNone_on g 0 z _ w hz hm)
  have C2 := Lib.hid (Go.MuLone.lock_free muLib ⟨g, 0, none⟩ w hm.1 hm.2.2.2.1)
  have hm1 := hm.lock 1
  have hs1 : b < (w.setCell ⟨g, 0, none⟩ (.int .i32 1)).heap.size := by simpa using hb
  have he1 : Es (w.setCell ⟨g, 0, none⟩ (.int .i32 1)) b es := he.other hbg
  have C3 := Lib.hid (find_any g b cap es blk _ hfew hle hm1.2.2.2.2.2 hs1 hm1.2.2.1 he1)
  go_enter_defers Try.func26, Try.ntmps26
  go_wp2_with fail
  refine C1.out.mono ?_
  rintro e w' ⟨rfl, rfl⟩
  go_wp2_with fail
  refine C2.out.mono ?_
  rintro e w' ⟨rfl, rfl⟩
  go_wp2_with fail
  refine C3.out.mono ?_
  rintro e w2 ⟨i, ok, rfl, hf, hb2⟩
  have hm2 := hm1.below hb2 hm1.2.2.2.2.2
  have he2 := he1.below hb2 hs1
  have hb0 : Below n₀ w w2 := ((Below.refl _ _).setCell (p := ⟨g, 0, none⟩) hn _).trans (hb2.mono (by simp; have := hm.2.2.2.2.2; omega))
  obtain ⟨d0, d2, d3, e0, e3, hg2⟩ := hm2
  have C4 := Lib.hid (fun u => Go.MuLone.unlock_deferred muLib ⟨g, 0, none⟩ u w2 d0 e0)
  rcases hf with ⟨rfl, x, rfl, hx⟩ | ⟨rfl, rfl, hx⟩
  · obtain ⟨c1, c2, c3⟩ := he2 x.1 x.2
    have hxl : x.1 < es.length := x.2
    go_wp2_with fail
    refine leaves_cons (f := 37) (args := #[.pointer (some ⟨g, 0, none⟩)]) (by simp) (by simp [go_sem]) ?_
    refine (C4.out .returning).mono ?_
    rintro e u' w'' ⟨rfl, rfl, rfl⟩
    exact ⟨_, results_tmp2 rfl _ _ _, _, _, rfl, .inl ⟨rfl, x, hx, rfl⟩, hb0.setCell (p := ⟨g, 0, none⟩) hn _, Mm.lock 0 ⟨d0, d2, d3, e0, e3, hg2⟩, he2.other hbg⟩
  · go_wp2_with fail
    refine leaves_cons (f := 37) (args := #[.pointer (some ⟨g, 0, none⟩)]) (by simp) (by simp [go_sem]) ?_
    refine (C4.out .returning).mono ?_
    rintro e u' w'' ⟨rfl, rfl, rfl⟩
    exact ⟨_, results_tmp2 rfl _ _ _, _, _, rfl, .inr ⟨rfl, rfl, hx⟩, hb0.setCell (p := ⟨g, 0, none⟩) hn _, Mm.lock 0 ⟨d0, d2, d3, e0, e3, hg2⟩, he2.other hbg⟩
def PutR (n₀ g : Nat) (z k : Int) (s : ByteArray) (w : World) (e : Ending) (w' : World) : Prop :=
  ∃ b cap, e = .returned (.tuple #[.int .i64 1, .int .i64 0]) ∧ Below n₀ w w' ∧ Mm w' g 0 z (.slice (some ⟨b, 0, none⟩) 1 cap) ∧ Es w' b [(k, false, s)] ∧ b < w'.heap.size ∧ b ≠ g
theorem es_one {w : World} {b : Nat} {k : Int} {f : Bool} {s : ByteArray} (h : Ent w b k f s) : Es w b [(k, f, s)] := fun j hj => by
  obtain rfl : j = 0 := by simp at hj; omega
  exact ⟨h.1, h.2.1, h.2.2.1⟩
set_option maxHeartbeats 4000000 in
theorem Put_nil (n₀ g : Nat) (z : Int) (s : ByteArray) (w : World) (hn : n₀ ≤ g) (h1 : 16 ≤ z) (h2 : z ≤ 256) (hs : s.size ≤ 2048) (hm : Mm w g 0 z (.slice none 0 0)) :
    Calls Try.prog 23 #[.pointer (some ⟨g, 0, none⟩), .string s] w (PutR n₀ g z (ndN z s.size) s w) := by
  have C1 := Lib.hid (isNone_on g 0 z _ w (by omega) hm)
  have C2 := Lib.hid (Go.MuLone.lock_free muLib ⟨g, 0, none⟩ w hm.1 hm.2.2.2.1)
  have hm1 := hm.lock 1
  have C3 := Lib.hid (put_nil n₀ g 1 z s _ hn h1 h2 hs hm1)
  go_enter_defers Try.func23, Try.ntmps23
  go_wp2_with fail
  refine C1.out.mono ?_
  rintro e w' ⟨rfl, rfl⟩
  go_wp2_with fail
  refine C2.out.mono ?_
  rintro e w' ⟨rfl, rfl⟩
  go_wp2_with fail
  refine C3.out.mono ?_
  rintro e w2 ⟨b, cap, rfl, hb2, hm2, hen, hbs, hbg⟩
  have hb0 : Below n₀ w w2 := ((Below.refl _ _).setCell (p := ⟨g, 0, none⟩) hn _).trans hb2
  obtain ⟨d0, d2, d3, e0, e3, hg2⟩ := hm2
  have C4 := Lib.hid (fun u => Go.MuLone.unlock_deferred muLib ⟨g, 0, none⟩ u w2 d0 e0)
  go_wp2_with fail
  refine leaves_cons (f := 37) (args := #[.pointer (some ⟨g, 0, none⟩)]) (by simp) (by simp [go_sem]) ?_
  refine (C4.out .returning).mono ?_
  rintro e u' w'' ⟨rfl, rfl, rfl⟩
  exact ⟨_, results_tmp2 rfl _ _ _, b, cap, rfl, hb0.setCell (p := ⟨g, 0, none⟩) hn _, Mm.lock 0 ⟨d0, d2, d3, e0, e3, hg2⟩, (es_one hen).other hbg, by simpa using hen.2.2.2, hbg⟩
end Go.Proofs.Ytkjbkiiddnkmaaa
