/- Three rows of the call's own, kept apart; what is true of a set. -/
import Derived.Test.YtjlbodfdkdhdnabTr
import Derived.Test.YtjlbodfdkdhdnabMoM
import Derived.Test.YtjlbodfdkdhdnabL3
import Derived.Deep.AppendLies
namespace Go.Proofs.Ytjlbodfdkdhdnab
open Go.RowKit
set_option linter.unusedVariables false
set_option linter.unusedSimpArgs false

def Dj (v u : Value) : Prop := ∀ g, v.ownBlock = some g → u.ownBlock ≠ some g
theorem Dj.symm {v u : Value} (h : Dj v u) : Dj u v := fun g h1 h2 => h g h2 h1
structure Tri (w : World) (base : Nat) (v1 v2 v3 : Value) (a b c : List Int) : Prop where
  o1 : Own w base 3 .i64 v1 a
  o2 : Own w base 3 .i64 v2 b
  o3 : Own w base 3 .i64 v3 c
  d12 : Dj v1 v2
  d13 : Dj v1 v3
  d23 : Dj v2 v3
def Keeps (w w' : World) (base : Nat) (v v' : Value) : Prop := ∀ u us, Own w base 3 .i64 u us → Dj v u → Own w' base 3 .i64 u us ∧ Dj v' u
section
variable {w w' : World} {base : Nat} {v1 v2 v3 v' : Value} {a b c a' : List Int}
theorem Tri.alloc (h : Tri w base v1 v2 v3 a b c) (o : Obj) : Tri (w.alloc o) base v1 v2 v3 a b c := ⟨h.o1.alloc o, h.o2.alloc o, h.o3.alloc o, h.d12, h.d13, h.d23⟩
theorem Tri.put1 (h : Tri w base v1 v2 v3 a b c) (ho : Own w' base 3 .i64 v' a') (hk : Keeps w w' base v1 v') : Tri w' base v' v2 v3 a' b c :=
  ⟨ho, (hk _ _ h.o2 h.d12).1, (hk _ _ h.o3 h.d13).1, (hk _ _ h.o2 h.d12).2, (hk _ _ h.o3 h.d13).2, h.d23⟩
theorem Tri.put2 (h : Tri w base v1 v2 v3 a b c) (ho : Own w' base 3 .i64 v' a') (hk : Keeps w w' base v2 v') : Tri w' base v1 v' v3 a a' c :=
  ⟨(hk _ _ h.o1 h.d12.symm).1, ho, (hk _ _ h.o3 h.d23).1, (hk _ _ h.o1 h.d12.symm).2.symm, h.d13, (hk _ _ h.o3 h.d23).2⟩
theorem Tri.put3 (h : Tri w base v1 v2 v3 a b c) (ho : Own w' base 3 .i64 v' a') (hk : Keeps w w' base v3 v') : Tri w' base v1 v2 v' a b a' :=
  ⟨(hk _ _ h.o1 h.d13.symm).1, (hk _ _ h.o2 h.d23.symm).1, ho, h.d12, (hk _ _ h.o1 h.d13.symm).2.symm, (hk _ _ h.o2 h.d23.symm).2.symm⟩
theorem Tri.of_eq {a2 b2 c2 : List Int} (h : Tri w base v1 v2 v3 a b c) (ha : a2 = a) (hb : b2 = b) (hc : c2 = c) : Tri w base v1 v2 v3 a2 b2 c2 := by subst ha hb hc; exact h
theorem Tri.nil (w : World) (base : Nat) : Tri w base (.slice none 0 0) (.slice none 0 0) (.slice none 0 0) [] [] [] := ⟨Own.nil _ _ _ _, Own.nil _ _ _ _, Own.nil _ _ _ _, fun g h => by simp [Value.ownBlock] at h, fun g h => by simp [Value.ownBlock] at h, fun g h => by simp [Value.ownBlock] at h⟩
end

theorem app_int3 {w : World} {ops : Array Oper} {rest : List Oper} {o : Oper} {a : Act} {Q : Exit → Act → World → Prop} (hgd : o.guard = none) (s x : Operand)
    (ho : o.op = .call { callee := .builtin .append, args := #[s, x], argTypes := #[22, 22] })
    (base : Nat) (v : Value) (zs : List Int) (z : Int) (hs : a.eval s = v) (hown : Own w base 3 .i64 v zs)
    (ad : Addr) (c : Nat) (hx : a.eval x = .slice (some ad) 1 c) (hc : w.cell? ad = some (.int .i64 z)) (hlen : zs.length ≤ 1000000) (hbase : base ≤ w.heap.size)
    (h : ∀ v' w', Own w' base 3 .i64 v' (zs ++ [z]) → Below base w w' → Keeps w w' base v v' → wpList Try.prog ops Q rest (a.put o.dst v') w') : wpList Try.prog ops Q (o :: rest) a w := by
  obtain ⟨i0, hi0, hz0, hz1, hz2⟩ := info_parts info3
  refine wpList_append_lies w hgd s x 22 ho base 3 i0 (.int .i64 0) 1 8 Try.underlying22 hi0 hz0 hz1 hz2 rfl (by decide) v zs.length _ hs hown ad 1 c [.int .i64 z] hx rfl ?_ ?_ (by decide) (by simp only [maxLen]; omega) (by omega) hbase w.heap.size rfl ?_
  · intro j u hu
    rcases j with _ | j
    · simp at hu; subst hu; simpa [Addr.add] using hc
    · simp at hu
  · intro u hu; simp at hu; subst hu; rfl
  · intro g cap w' hown' hg hl _
    refine h _ w' (by unfold Own; simpa using hown') ((Below.refl _ _).grown hg hbase fun g hg' => (hown.block hg').1) fun u us hu hd => ?_
    refine ⟨World.ownsRow.kept hu hg ?_, fun g' hg' hug => ?_⟩
    · rcases hub : u.ownBlock with _ | g'
      · exact .inl rfl
      · exact .inr fun e => hd g' e.symm hub
    · have e : g = g' := by simpa [Value.ownBlock] using hg'
      subst e
      rcases hl with hl | hl
      · exact hd g hl hug
      · have := (hu.block hug).2; omega

theorem fil_yes (p : Int → Bool) (j : Nat) (h : p ((j : Int) + 1) = true) : (upTo (j + 1)).filter p = (upTo j).filter p ++ [(j : Int) + 1] := by
  rw [upTo_succ, List.filter_append]; simp [h]
theorem fil_no (p : Int → Bool) (j : Nat) (h : p ((j : Int) + 1) = false) : (upTo (j + 1)).filter p = (upTo j).filter p := by
  rw [upTo_succ, List.filter_append]; simp [h]
theorem fil_len (p : Int → Bool) (j : Nat) (h : j ≤ 300) : ((upTo j).filter p).length ≤ 300 := Nat.le_trans (List.length_filter_le _ _) (by rw [upTo_len]; omega)

def trOk (s m y : List Int) : Bool := stB s m y && trB s m y
theorem trOk_iff (s m y : List Int) : trOk s m y = true ↔ (IsS s ∧ IsS m ∧ (∀ x ∈ s, x ∈ m)) ∧ IsS y ∧ (∀ x ∈ s, x ∈ y) ∧ (∀ x ∈ y, x ∈ m) := by
  simp only [trOk, Bool.and_eq_true, stB, VB_iff, IsS.iff, trB, decide_eq_true_eq, List.length_eq_zero_iff]
  constructor
  · rintro ⟨⟨⟨h1, h2, h3⟩, h4⟩, h5, h6⟩
    exact ⟨⟨h1, h2, h3⟩, h4, (lessL_nil_iff h1.2 h4.2).1 h5, (lessL_nil_iff h4.2 h2.2).1 h6⟩
  · rintro ⟨⟨h1, h2, h3⟩, h4, h5, h6⟩
    exact ⟨⟨⟨h1, h2, h3⟩, h4⟩, (lessL_nil_iff h1.2 h4.2).2 h5, (lessL_nil_iff h4.2 h2.2).2 h6⟩

def inL (k l : List Int) (j : Nat) : List Int := (upTo j).filter fun x => decide (x ∈ k) && decide (x ∈ l)
def anyL (k l : List Int) (j : Nat) : List Int := (upTo j).filter fun x => decide (x ∈ k) || decide (x ∈ l)
def noL (k : List Int) (j : Nat) : List Int := (upTo j).filter fun x => !decide (x ∈ k)
theorem isS_fil (p : Int → Bool) : IsS ((upTo 300).filter p) := (isS_upTo (Nat.le_refl _)).filter p

theorem tr_in {s m s2 m2 k l : List Int} (h : trOk s m k = true) (g : trOk s2 m2 l = true) : trOk (interL s s2) (interL m m2) (inL k l 300) = true := by
  rw [trOk_iff] at *
  obtain ⟨⟨h1, h2, h3⟩, h4, h5, h6⟩ := h
  obtain ⟨⟨g1, g2, g3⟩, g4, g5, g6⟩ := g
  refine ⟨⟨h1.merge g1 _ _ _, h2.merge g2 _ _ _, ?_⟩, isS_fil _, ?_, ?_⟩
  · intro x; rw [mem_inter h1.2 g1.2, mem_inter h2.2 g2.2]; exact fun ⟨p, q⟩ => ⟨h3 x p, g3 x q⟩
  · intro x; rw [mem_inter h1.2 g1.2, inL, List.mem_filter, mem_upTo]
    exact fun ⟨p, q⟩ => ⟨by have := h1.1 x p; omega, by simp [h5 x p, g5 x q]⟩
  · intro x; rw [mem_inter h2.2 g2.2, inL, List.mem_filter, mem_upTo]
    intro ⟨_, p⟩
    simp at p
    exact ⟨h6 x p.1, g6 x p.2⟩
theorem tr_any {s m s2 m2 k l : List Int} (h : trOk s m k = true) (g : trOk s2 m2 l = true) : trOk (unionL s s2) (unionL m m2) (anyL k l 300) = true := by
  rw [trOk_iff] at *
  obtain ⟨⟨h1, h2, h3⟩, h4, h5, h6⟩ := h
  obtain ⟨⟨g1, g2, g3⟩, g4, g5, g6⟩ := g
  refine ⟨⟨h1.merge g1 _ _ _, h2.merge g2 _ _ _, ?_⟩, isS_fil _, ?_, ?_⟩
  · intro x; rw [mem_union h1.2 g1.2, mem_union h2.2 g2.2]; exact fun p => p.imp (h3 x) (g3 x)
  · intro x; rw [mem_union h1.2 g1.2, anyL, List.mem_filter, mem_upTo]
    rintro (p | p)
    · exact ⟨by have := h1.1 x p; omega, by simp [h5 x p]⟩
    · exact ⟨by have := g1.1 x p; omega, by simp [g5 x p]⟩
  · intro x; rw [mem_union h2.2 g2.2, anyL, List.mem_filter, mem_upTo]
    intro ⟨_, p⟩
    simp at p
    exact p.imp (h6 x) (g6 x)
theorem tr_no {s m k : List Int} (h : trOk s m k = true) : trOk (lessL (upTo 300) m) (lessL (upTo 300) s) (noL k 300) = true := by
  rw [trOk_iff] at *
  obtain ⟨⟨h1, h2, h3⟩, h4, h5, h6⟩ := h
  have hu := isS_upTo (Nat.le_refl 300)
  refine ⟨⟨hu.merge h2 _ _ _, hu.merge h1 _ _ _, ?_⟩, isS_fil _, ?_, ?_⟩
  · intro x; rw [mem_less hu.2 h2.2, mem_less hu.2 h1.2]; exact fun ⟨p, q⟩ => ⟨p, fun r => q (h3 x r)⟩
  · intro x; rw [mem_less hu.2 h2.2, noL, List.mem_filter]
    exact fun ⟨p, q⟩ => ⟨p, by have : x ∉ k := fun r => q (h6 x r); simpa using this⟩
  · intro x; rw [mem_less hu.2 h1.2, noL, List.mem_filter]
    intro ⟨p, q⟩
    simp at q
    exact ⟨p, fun r => q (h5 x r)⟩
theorem notB_ok {s m k : List Int} (h : trOk s m k = true) : notB s m 300 = true := by
  rw [trOk_iff] at h
  obtain ⟨⟨h1, h2, h3⟩, _⟩ := h
  simp only [notB, Bool.and_eq_true]
  exact ⟨⟨(VB_iff s m).2 ⟨h1, h2, h3⟩, by simp [cntB]⟩, (IsS.iff m).2 h2⟩
theorem trOk_vb {s m k : List Int} (h : trOk s m k = true) : VB s m = true := by
  rw [trOk_iff] at h
  exact (VB_iff s m).2 h.1
theorem two_new (w : World) (o : Obj) (t1 t2 : TypeId) (cs1 cs2 : Array Value) :
    Bk (((w.alloc o).alloc (.cells cs1 t1)).alloc (.cells cs2 t2)).drew (w.heap.size + 1) t1 cs1 ∧ Bk (((w.alloc o).alloc (.cells cs1 t1)).alloc (.cells cs2 t2)).drew (w.heap.size + 1 + 1) t2 cs2 ∧ Below w.heap.size w (((w.alloc o).alloc (.cells cs1 t1)).alloc (.cells cs2 t2)).drew := by
  have e1 : (w.alloc o).heap.size = w.heap.size + 1 := by simp
  have e2 : ((w.alloc o).alloc (.cells cs1 t1)).heap.size = w.heap.size + 1 + 1 := by simp
  refine ⟨?_, ?_, ?_⟩
  · have h := ((Bk.new (w.alloc o) t1 cs1).alloc (.cells cs2 t2)).dr ⟨1, rfl⟩
    rw [e1] at h; exact h
  · have h := (Bk.new ((w.alloc o).alloc (.cells cs1 t1)) t2 cs2).dr ⟨1, rfl⟩
    rw [e2] at h; exact h
  · exact Dr.below (((Below.of_alloc w o _ (Nat.le_refl _)).alloc (by simp) _).alloc (by simp; omega) _) ⟨1, rfl⟩
theorem trTrue_of {w : World} {s m y : List Int} {P : Program} {f : FuncId} {args : Array Value} (h : trOk s m y = true) (hc : Calls P f args w (TRes w (stB s m y && trB s m y) (if stB s m y then 0 else 1))) : Calls P f args w (TRes w true 0) := by
  have h' := h
  simp only [trOk, Bool.and_eq_true] at h'
  simpa [h'.1, h'.2] using hc
theorem trOk_is {s m y : List Int} (h : trOk s m y = true) : IsS s ∧ IsS m := by
  rw [trOk_iff] at h; exact ⟨h.1.1, h.1.2.1⟩
end Go.Proofs.Ytjlbodfdkdhdnab
