/- The entries of a file: all, at any entries. -/
import Derived.Test.YtkjbkiiddnkmaaaMmF
namespace Go.Proofs.Ytkjbkiiddnkmaaa
open Go.RowKit Go.Shelf
set_option linter.unusedVariables false
set_option linter.unusedSimpArgs false
set_option maxRecDepth 100000
attribute [local go_sem] Oper.semAt_some

abbrev E3 := Int × Bool × ByteArray
/-- The entries in block b. -/
def Es (w : World) (b : Nat) (es : List E3) : Prop :=
  ∀ j (h : j < es.length), w.cell? ⟨b, j * 3, none⟩ = some (.int .i64 es[j].1) ∧ w.cell? ⟨b, j * 3 + 1, none⟩ = some (.bool es[j].2.1) ∧ w.cell? ⟨b, j * 3 + 2, none⟩ = some (.string es[j].2.2)
theorem Es.below {w w' : World} {b B : Nat} {es : List E3} (h : Es w b es) (hb : Below B w w') (hg : b < B) : Es w' b es := fun j hj =>
  ⟨(hb.cell (p := ⟨b, j * 3, none⟩) hg).trans (h j hj).1, (hb.cell (p := ⟨b, j * 3 + 1, none⟩) hg).trans (h j hj).2.1, (hb.cell (p := ⟨b, j * 3 + 2, none⟩) hg).trans (h j hj).2.2⟩
/-- The first block of entry k. -/
def atE (es : List E3) (k : Nat) : Int := 1 + ((es.take k).map (·.1)).sum
theorem atE_zero (es : List E3) : atE es 0 = 1 := by simp [atE]
theorem atE_succ (es : List E3) (k : Nat) (h : k < es.length) : atE es (k + 1) = atE es k + es[k].1 := by
  unfold atE
  rw [List.take_succ_eq_append_getElem h]; simp only [List.map_append, List.sum_append_int, List.map_cons, List.map_nil, List.sum_cons, List.sum_nil]; omega
/-- The blocks are few. -/
def Few (es : List E3) : Prop := ∀ k, k ≤ es.length → 0 ≤ atE es k ∧ atE es k ≤ 5000
/-- The first k entries' numbers. -/
def fstE (n k : Nat) : List (Fin n) := (List.finRange n).take k
theorem fstE_zero (n : Nat) : fstE n 0 = [] := rfl
theorem fstE_succ (n k : Nat) (h : k < n) : fstE n (k + 1) = fstE n k ++ [⟨k, h⟩] := by
  unfold fstE
  rw [List.take_succ_eq_append_getElem (by simpa using h)]; simp
theorem fstE_length (n k : Nat) (h : k ≤ n) : (fstE n k).length = k := by simp [fstE, h]
/-- What yield is handed. -/
def enE (es : List E3) (x : Fin es.length) : Array Value := #[.int .i64 (x.1 : Int), .int .i64 (atE es x.1)]

/-- What a round keeps: all below n₀, and all cells that were laid from m on. -/
def KC (n₀ m : Nat) (W W' : World) : Prop := Below n₀ W W' ∧ ∀ k o, m ≤ k → W.heap[k]? = some o → o.isCells = true → W'.heap[k]? = some o
theorem KC.refl (n₀ m : Nat) (W : World) : KC n₀ m W W := ⟨Below.refl _ _, fun _ _ _ h _ => h⟩
theorem KC.t {n₀ m : Nat} {A B C : World} (h : KC n₀ m A B) (k : KC n₀ m B C) : KC n₀ m A C := ⟨h.1.trans k.1, fun i o hi ho hc => k.2 i o hi (h.2 i o hi ho hc) hc⟩
theorem KC.b {n₀ m : Nat} {w : World} (hn : n₀ ≤ w.heap.size) (W : World) (l : Nat) (o o' : Obj) (hl : w.heap.size ≤ l) (h : W.heap[l]? = some o) (hc : o.isCells = false) (hw : o.isWalk = false) : KC n₀ m W (W.putObj l o') :=
  ⟨belowK_b hn W l o o' hl h hc hw, fun k ob hk ho hob => by
    have hkl : k ≠ l := by rintro rfl; rw [h] at ho; cases ho; rw [hc] at hob; cases hob
    have := (grownBy_putObj' W l o').block k (Array.getElem?_eq_some_iff.1 ho).1 (fun e => hkl (Option.some.inj e))
    rw [this, ho]⟩
theorem KC.alloc {n₀ m : Nat} {A W : World} (h : KC n₀ m A W) (hn : n₀ ≤ W.heap.size) (o : Obj) : KC n₀ m A (W.alloc o) :=
  ⟨h.1.alloc hn o, fun k ob hk ho hob => by
    have q := h.2 k ob hk ho hob
    rw [Below.heap_alloc _ _ _ (Array.getElem?_eq_some_iff.1 q).1, q]⟩
theorem KC.cell {n₀ m : Nat} {W W' : World} (h : KC n₀ m W W') {B o : Nat} {c : Array Value} {t : TypeId} {fr : Nat × Nat} (hB : m ≤ B) (hb : W.heap[B]? = some (.cells c t fr)) : W'.cell? ⟨B, o, none⟩ = W.cell? ⟨B, o, none⟩ := by
  have q := h.2 B _ hB hb rfl
  simp only [World.cell?, q, hb]

set_option maxHeartbeats 2000000 in
theorem all1_any (F : Fence) (n : Nat) (hf : F.fn 69) (hro : F.round = none) (hn : 1 ≤ n) (l Bs n₀ m g b cap : Nat) (es : List E3) (hb : b < n₀) (hfew : Few es) (hle : es.length ≤ 5000) (J Jx : List (Fin es.length) → World → Prop)
    (hJa : ∀ k W o, J (fstE es.length k) W → J (fstE es.length k) (W.alloc o))
    (hY : ∀ pre x W, J pre W → pre.length < es.length → YieldAt F (n - 1) Try.prog l (enE es x) W fun e W' =>
      (e = .returned (.bool true) ∧ J (pre ++ [x]) W' ∧ KC n₀ m W W') ∨ (e = .returned (.bool false) ∧ Jx (pre ++ [x]) W'))
    (W : World) (hn₀ : n₀ ≤ W.heap.size) (hm : m ≤ W.heap.size) (hBs : W.cell? ⟨Bs, 0, none⟩ = some (.pointer (some ⟨g, 2, none⟩))) (hc : W.cell? ⟨g, 3, none⟩ = some (.slice (some ⟨b, 0, none⟩) es.length cap)) (he : Es W b es) (h0 : J [] W) :
    CallsIn F n Try.prog 69 #[.func (.yield l) #[] #[], .pointer (some ⟨Bs, 0, none⟩)] W fun e W' => (∃ v, e = .returned v) ∧
      ((∃ ys, ys = fstE es.length es.length ∧ J ys W') ∨ (∃ pre, (∃ k, k < es.length ∧ pre = fstE es.length (k + 1)) ∧ Jx pre W')) := by
  refine callsIn_of_wp Try.func69 rfl hf ?_ hro
  simp only [Try.ntmps69, List.size_toArray, List.length_cons, List.length_nil, Nat.reduceAdd, Nat.reduceSub, Array.replicate_succ, Array.replicate_zero, List.push_toArray, List.append_toArray, List.nil_append, List.cons_append]
  gi_wp2
  gi_loopw [3, 11] (fun t i wr => ∃ k : Nat, k ≤ es.length ∧ i = .int .i64 k ∧ t = .int .i64 (atE es k) ∧ J (fstE es.length k) wr ∧ Below n₀ W wr ∧ n₀ ≤ wr.heap.size ∧ m ≤ wr.heap.size)
    (fun _ i _ => es.length - (intOf i).toNat)
  case atStart => exact ⟨0, Nat.zero_le _, rfl, by rw [atE_zero], h0, Below.refl _ _, hn₀, hm⟩
  case round =>
    obtain ⟨k, hk, rfl, rfl, hJs, hnx, hnr, hmr⟩ := hrel
    have hex := he.below hnx hb
    by_cases hlt : k < es.length
    · obtain ⟨c1, c2, c3⟩ := hex k hlt
      have hfk := hfew k hk
      have hfk1 := hfew (k + 1) hlt
      have hbr : b < wr.heap.size := by omega
      have e0 := atE_succ es k hlt
      rw [e0] at hfk1
      obtain ⟨p1, p2⟩ := hfk
      obtain ⟨p3, p4⟩ := hfk1
      clear e0
      generalize hX : wr.alloc (.cells #[.int .i64 es[k].1, .bool es[k].2.1, .string es[k].2.2] 95) = X
      have hXb : X.heap[wr.heap.size]? = some (.cells #[.int .i64 es[k].1, .bool es[k].2.1, .string es[k].2.2] 95) := by rw [← hX]; exact World.alloc_heap_new wr _
      have hXs : wr.heap.size < X.heap.size := by rw [← hX]; simp
      have hXw : Below n₀ wr X := by rw [← hX]; exact (Below.refl _ _).alloc hnr _
      obtain ⟨fn, tmps, assign, body, hy, hR⟩ := hY (fstE es.length k) ⟨k, hlt⟩ X (by rw [← hX]; exact hJa _ _ _ hJs) (by rw [fstE_length _ _ hk]; exact hlt)
      have hs1 := fstE_succ es.length k hlt
      rw [← hs1] at hR
      have HR := Lib.hid hR
      clear hs1 hR
      have hXs' := Lib.hid hXs
      have hXb' := Lib.hid hXb
      have e1 := Lib.hid (atE_succ es k hlt)
      clear hXb hXs
      subst hX
      simp only [enE] at hy
      gi_wp2
      refine HR.out.mono ?_
      rintro e W3 (⟨rfl, hJ3, hk3⟩ | ⟨rfl, hJx3⟩)
      · have hq : W3.cell? ⟨wr.heap.size, 0, none⟩ = some (.int .i64 es[k].1) := by
          rw [hk3.cell hmr hXb'.out]; simp
        have hz3 : wr.heap.size < W3.heap.size := Nat.lt_of_lt_of_le hXs'.out hk3.1.size
        gi_wp2
        go_roundw
        case rel => exact ⟨k + 1, by omega, by simp, by rw [e1.out], hJ3, (hnx.trans hXw).trans hk3.1, by omega, by omega⟩
        case measure => simp [intOf]; omega
      · gi_wp2
        refine bodyPost_ret (results_none rfl _ _ _) rfl ?_
        exact ⟨⟨_, rfl⟩, .inr ⟨_, ⟨k, hlt, rfl⟩, hJx3⟩⟩
    · obtain rfl : k = es.length := by omega
      gi_wp2
      go_end0
      exact ⟨⟨_, rfl⟩, .inl ⟨_, rfl, hJs⟩⟩
end Go.Proofs.Ytkjbkiiddnkmaaa
