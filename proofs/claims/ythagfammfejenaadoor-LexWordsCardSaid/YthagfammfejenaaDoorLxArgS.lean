/- Lists of texts as arguments. -/
import Derived.Test.YthagfammfejenaaDoorLxA
import Derived.Test.YthagfammfejenaaDoorLxW2
import Derived.Lib.SmallJoins
import Derived.ProofKit
import Derived.OpenShut
import Derived.ShutString
import Derived.ChangeMaps5
import Derived.SizedLaws
import Derived.SliceStrings
import Derived.Deep.Grids
import Derived.Deep.Slices
import Derived.Carry
namespace Go.Proofs.YthagfammfejenaaDoor
open Go.ChangeShapes Go.WideShapes Go.ChangeAt Go.RowKit Go.Joins Go.Deep
set_option linter.unusedVariables false
set_option linter.unusedSimpArgs false
set_option maxRecDepth 100000
theorem laidOut : laidOutB Tryd.prog = true := by kernel_rfl
theorem block_lt {w : World} {p : Addr} {v : Value} (h : w.cell? p = some v) : p.block < w.heap.size := by
  rcases Nat.lt_or_ge p.block w.heap.size with hlt | hge
  · exact hlt
  · simp [World.cell?, Array.getElem?_eq_none hge] at h
theorem spot_none {w : World} {p : Addr} {v : Value} (h : w.cell? p = some v) : p.spot = none := by
  unfold World.cell? at h
  split at h
  · split at h
    · cases h
    · rename_i hs
      cases hp : p.spot with
      | none => rfl
      | some x => rw [hp] at hs; simp at hs
  · cases h
theorem cTk : Tryd.prog.cellsOf 53 = 3 := by kernel_rfl
theorem cI : Tryd.prog.cellsOf 3 = 1 := by kernel_rfl
section
variable {H : Type} {enc : TypeId × Value → H} {w : World} {base : Nat} {held : Bool}
/-- The datum of a slice has so many elements. -/
def Many (d : DataW H) (n : Nat) : Prop := (d = .nil ∧ n = 0) ∨ ∃ el sp, d = .slice el sp ∧ el.length = n
theorem open_tokens {v : Value} {r : Reach} {b0 : Nat} {d : DataW H} {p : List MemPlace} (hv : Value.okWide Tryd.prog w r b0 23 v)
    (h : DataW.Trod enc Tryd.prog w base (fun _ => true) held 23 v d p) :
    ∃ (A : Option Addr) (l : List Tk) (c : Nat), v = .slice A l.length c ∧ TkA w A l ∧ Many d l.length := by
  obtain ⟨a, n, c, rfl⟩ := okWide_slice Tryd.underlying23 hv
  obtain ⟨fuel, hf⟩ := h
  rcases open_slice Tryd.underlying23 hf with ⟨hcs, hx⟩ | ⟨a', len, cap, m, k, D, Pl, hcs, _, hl, hm, hmm, hx, hel⟩
  · replace hcs : [Value.slice a n c] = _ := hcs
    simp only [List.cons.injEq, and_true] at hcs
    simp only [Prod.mk.injEq] at hx
    exact ⟨none, [], 0, by simpa using hcs, fun hn => absurd rfl hn, .inl ⟨hx.1, rfl⟩⟩
  · replace hcs : [Value.slice a n c] = _ := hcs
    simp only [List.cons.injEq, and_true] at hcs
    simp only [Prod.mk.injEq] at hx
    simp only [if_true] at hmm
    subst hmm
    rw [cTk] at hel
    have each : ∀ i, i < m → ∃ f : Tk, w.cell? (a'.add (i * 3)) = some (.int .i64 f.1) ∧ w.cell? (a'.add (i * 3 + 1)) = some (.int .i64 f.2.1) ∧ w.cell? (a'.add (i * 3 + 2)) = some (.string f.2.2) := by
      intro i hi
      obtain ⟨cs', h1, h2⟩ := hel i hi
      obtain ⟨_, hlen, hcell⟩ := World.cells?_some h1
      obtain ⟨xs, q, hq, hxy, _, hxl, hfs⟩ := DataW.trod_struct Tryd.underlying53 h2
      match xs, hxl, cs', hlen with
      | [y0, y1, y2], _, [v0, v1, v2], _ =>
        have g0 := hfs 0 _ rfl
        have g1 := hfs 1 _ rfl
        have g2 := hfs 2 _ rfl
        have cS : Tryd.prog.cellsOf 9 = 1 := by kernel_rfl
        simp [cI, cS] at g0 g1 g2
        have e0 := hcell 0 (by omega)
        have e1 := hcell 1 (by omega)
        have e2 := hcell 2 (by omega)
        rw [add_add] at e0 e1 e2
        obtain ⟨k1, a1, _, _⟩ := DataW.trod_int Tryd.underlying3 g0
        obtain ⟨k2, a2, _, _⟩ := DataW.trod_int Tryd.underlying3 g1
        obtain ⟨s, a0, _, hs⟩ := DataW.trod_string Tryd.underlying9 g2
        simp only [List.cons.injEq, and_true] at a0 a1 a2
        subst a0 a1 a2
        exact ⟨(k1, k2, s), by simpa using e0, by simpa using e1, by simpa using e2⟩
    obtain ⟨F, hF⟩ := choose_lt each
    refine ⟨some a', (List.range len).map F, m, by simpa using hcs, fun hn => ?_, .inr ⟨_, _, hx.1, by simp⟩⟩
    have hl0 : 0 < len := by
      rcases Nat.eq_zero_or_pos len with h0 | h0
      · subst h0; simp at hn
      · exact h0
    have hc0 := (hF 0 (by omega)).1
    have ha0 : a'.add (0 * 3) = a' := by simp [Addr.add]
    rw [ha0] at hc0
    have hsp := spot_none hc0
    have hblk := block_lt hc0
    obtain ⟨b, off, sp⟩ := a'
    simp only at hsp hblk
    subst hsp
    refine ⟨b, off, rfl, hblk, fun j hj => ?_⟩
    have hj' : j < len := by simpa using hj
    obtain ⟨z0, z1, z2⟩ := hF j (by omega)
    have hadd : ∀ q, (⟨b, off, none⟩ : Addr).add q = ⟨b, off + q, none⟩ := fun q => by
      unfold Addr.add
      by_cases h : q = 0 <;> simp [h]
    rw [hadd] at z0 z1 z2
    unfold TkAt
    rw [List.getElem_map, List.getElem_range]
    exact ⟨z0, by rw [Nat.add_assoc]; exact z1, by rw [Nat.add_assoc]; exact z2⟩
theorem open_texts {t e : TypeId} (ht : Tryd.prog.underlying t = some (.slice e)) (he : Tryd.prog.underlying e = some .string) (hc : Tryd.prog.cellsOf e = 1) {r : Reach} {b0 : Nat} {v : Value} {d : DataW H} {p : List MemPlace} (hv : Value.okWide Tryd.prog w r b0 t v)
    (h : DataW.Trod enc Tryd.prog w base (fun _ => true) held t v d p) :
    ∃ (A : Option Addr) (xs : List ByteArray) (c : Nat), v = .slice A xs.length c ∧ RdS w A xs ∧ Many d xs.length ∧ ∀ s ∈ xs, s.data.toList.length ∈ DataW.weights Tryd.prog t d := by
  obtain ⟨a, l, c, rfl⟩ := okWide_slice ht hv
  obtain ⟨fuel, hf⟩ := h
  rcases open_strings ht he hc hf with ⟨hcs, hx⟩ | ⟨a', len, cap, ss, hcs, _, hl, hm, hz, hx, hcell, _⟩
  · replace hcs : [Value.slice a l c] = _ := hcs
    simp only [List.cons.injEq, and_true] at hcs
    simp only [Prod.mk.injEq] at hx
    exact ⟨none, [], 0, by simpa using hcs, fun j hj => by simp at hj, .inl ⟨hx.1, rfl⟩, fun s hs => by simp at hs⟩
  · replace hcs : [Value.slice a l c] = _ := hcs
    simp only [List.cons.injEq, and_true] at hcs
    simp only [Prod.mk.injEq] at hx
    simp only [if_true] at hz
    have hlz : len ≤ ss.length := by omega
    refine ⟨some a', ss.take len, cap, by rw [List.length_take, Nat.min_eq_left hlz]; simpa using hcs, fun j hj => ?_, .inr ⟨_, _, hx.1, by simp [strs]⟩, fun s hs => ?_⟩
    · have hj' : j < len := by simp at hj; omega
      have hcl := hcell j (by omega)
      refine ⟨a', rfl, ?_, by rw [hcl]; simp [List.getD, hj']; rfl⟩
      have := block_lt hcl
      rwa [block_of_plus] at this
    · rw [hx.1]
      have hall : ∀ l : List ByteArray, s ∈ l → s.data.toList.length ∈ DataW.weightsAll Tryd.prog e (strs l : List (DataW H)) := by
        intro l hm
        induction l with
        | nil => simp at hm
        | cons x t ih =>
          simp only [strs, List.map_cons, DataW.weightsAll, List.mem_append]
          rcases List.mem_cons.1 hm with rfl | hm
          · left; simp [DataW.weights]
          · right; exact ih hm
      simp only [DataW.weights, ht, List.mem_cons, List.mem_append]
      exact .inr (.inl (hall _ hs))

end
section
variable {H : Type} {ts : List TypeId} {ds : List (DataW H)}
theorem sized_many (h : (DataW.weightsEach Tryd.prog ts ds).all (· ≤ reachBytes) = true) {j : Nat} {t e : TypeId} {d : DataW H} {n : Nat} (hm : Many d n) (ht : ts[j]? = some t) (hd : ds[j]? = some d) (hu : Tryd.prog.underlying t = some (.slice e)) (hb : 0 < Tryd.prog.bytesOf e) : n ≤ 140737488355328 := by
  rcases hm with ⟨_, rfl⟩ | ⟨el, sp, rfl, rfl⟩
  · omega
  · have h1 := sized_slice h ht hd hu
    have := reachBytes_lt
    have h2 : el.length ≤ (el.length + sp.length) * Tryd.prog.bytesOf e := Nat.le_trans (Nat.le_add_right _ _) (Nat.le_mul_of_pos_right _ hb)
    omega
theorem sized_texts (h : (DataW.weightsEach Tryd.prog ts ds).all (· ≤ reachBytes) = true) {j : Nat} {t : TypeId} {d : DataW H} {xs : List ByteArray} (hm : ∀ s ∈ xs, s.data.toList.length ∈ DataW.weights Tryd.prog t d) (ht : ts[j]? = some t) (hd : ds[j]? = some d) : ∀ s ∈ xs, s.size ≤ 140737488355328 := by
  intro s hs
  have := List.all_eq_true.1 h _ (DataW.weights_mem_each ht hd _ (hm s hs))
  have hl : s.data.toList.length = s.size := rfl
  have h2 : s.data.toList.length ≤ reachBytes := by simpa using this
  have := reachBytes_lt
  omega
theorem sized_str (h : (DataW.weightsEach Tryd.prog ts ds).all (· ≤ reachBytes) = true) {j : Nat} {t : TypeId} {s : ByteArray} (ht : ts[j]? = some t) (hd : ds[j]? = some (.lit (.string s.data.toList))) : s.size ≤ 140737488355328 := by
  have h2 : s.data.toList.length ≤ reachBytes := sized_string h ht hd
  have hl : s.data.toList.length = s.size := rfl
  have := reachBytes_lt
  omega
end
end Go.Proofs.YthagfammfejenaaDoor
