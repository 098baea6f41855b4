/- The plain operations: literals, parts, places. -/
import Derived.Test.YtafajhplaldeaaaGreatEvG
import GoSem.Instr.Build
set_option linter.unusedVariables false
set_option linter.unusedSimpArgs false
namespace Go.Ev
open Go

theorem wrArr_cons {C : Array Value} {s : Nat} {x : Value} {xs : List Value} (h : s + (xs.length + 1) ≤ C.size) : wrArr (C.setIfInBounds s x) (s + 1) xs = wrArr C s (x :: xs) := by
  apply Array.ext'
  apply List.ext_getElem?
  intro j
  rw [Array.getElem?_toList, Array.getElem?_toList, wrArr_get (by simp; omega), wrArr_get (by simp; omega)]
  simp only [List.length_cons]
  rw [Array.getElem?_setIfInBounds]
  by_cases e1 : j < s
  · rw [if_pos (by omega), if_pos e1, if_neg (by omega)]
  · by_cases e2 : j = s
    · subst e2
      have a1 : j < j + 1 := by omega
      have a3 : j < j + (xs.length + 1) := by omega
      have a4 : j < C.size := by omega
      simp [a1, a3, a4]
    · rw [if_neg (by omega), if_neg e1]
      by_cases e3 : j < s + 1 + xs.length
      · rw [if_pos e3, if_pos (by omega), show j - s = (j - (s + 1)) + 1 by omega]
        simp
      · rw [if_neg e3, if_neg (by omega), if_neg (by omega)]

theorem foldl_wr (off : Nat) : ∀ (l : List Value) (k : Nat) (C : Array Value), off + k + l.length ≤ C.size →
    (l.zipIdx k).foldl (fun cs (p : Value × Nat) => cs.setIfInBounds (off + p.2) p.1) C = wrArr C (off + k) l
  | [], k, C, _ => by simp [wrArr_nil]
  | x :: l, k, C, h => by
    simp only [List.length_cons] at h
    rw [List.zipIdx_cons, List.foldl_cons, foldl_wr off l (k + 1) _ (by simp; omega), show off + (k + 1) = off + k + 1 by omega]
    exact wrArr_cons (by omega)

section
variable {E : Nat → Value}

/-- the filling of a literal, plainly -/
def fillL (place : Nat → Option (Nat × Nat)) : List (Nat × VV) → List VV → Option (List VV)
  | [], cells => some cells
  | (i, v) :: rest, cells => match place i with
    | none => none
    | some (off, size) => if v.cells.length = size ∧ off + v.cells.length ≤ cells.length then fillL place rest (cells.take off ++ v.cells ++ cells.drop (off + v.cells.length)) else none

theorem fillL_length {place : Nat → Option (Nat × Nat)} : ∀ {parts : List (Nat × VV)} {cells out : List VV}, fillL place parts cells = some out → out.length = cells.length
  | [], cells, out, h => by simp only [fillL, Option.some.injEq] at h; rw [h]
  | (i, v) :: rest, cells, out, h => by
    unfold fillL at h
    split at h
    · cases h
    · split at h
      · rename_i hc
        rw [fillL_length h]
        simp
        omega
      · cases h

theorem fillV_ok {place : Nat → Option (Nat × Nat)} {v : VV} {H : VH} : ∀ {parts : List (Nat × VV)} {cells : List VV} {k : List VV → RV}, fillV place parts cells k = .ok v H ↔ ∃ out, fillL place parts cells = some out ∧ k out = .ok v H
  | [], cells, k => by simp [fillV, fillL]
  | (i, x) :: rest, cells, k => by
    unfold fillV fillL
    cases hp : place i with
    | none => simp
    | some p =>
      obtain ⟨off, size⟩ := p
      simp only [RV.when_ok, beq_iff, lenN_eq, spliceK_ok, fillV_ok (parts := rest)]
      by_cases h1 : x.cells.length = size
      · by_cases h2 : off + x.cells.length ≤ cells.length
        · simp [h1, h2]; rw [h1] at h2; simp [h2]
        · simp [h1, h2]; rw [h1] at h2; simp [h2]
      · simp [h1]

/-- wrArr, as lists -/
theorem splice_conc {ρ : Rho} {cells xs : List VV} {C ys : List Value} {off : Nat} (hc : concs E ρ cells = some C) (hx : concs E ρ xs = some ys) (hn : off + xs.length ≤ cells.length) :
    concs E ρ (cells.take off ++ xs ++ cells.drop (off + xs.length)) = some (wrArr C.toArray off ys).toList := by
  have h1 := concs_length E hc
  have h2 := concs_length E hx
  have ht : ∀ (n : Nat) {l : List VV} {x : List Value}, concs E ρ l = some x → concs E ρ (l.take n) = some (x.take n) := by
    intro n
    induction n with
    | zero => intro l x h; simp [concs]
    | succ n ih =>
      intro l x h
      cases l with
      | nil => simp only [concs, Option.some.injEq] at h; subst h; rfl
      | cons a l =>
        simp only [concs, Option.bind_eq_some_iff, Option.map_eq_some_iff] at h
        obtain ⟨p, hp, q, hq, rfl⟩ := h
        simp [concs, hp, ih hq]
  have hd : ∀ (n : Nat) {l : List VV} {x : List Value}, concs E ρ l = some x → concs E ρ (l.drop n) = some (x.drop n) := by
    intro n
    induction n with
    | zero => intro l x h; simpa using h
    | succ n ih =>
      intro l x h
      cases l with
      | nil => simp only [concs, Option.some.injEq] at h; subst h; rfl
      | cons a l =>
        simp only [concs, Option.bind_eq_some_iff, Option.map_eq_some_iff] at h
        obtain ⟨p, hp, q, hq, rfl⟩ := h
        simpa using ih hq
  unfold wrArr
  rw [h2]
  exact concs_append E (concs_append E (ht off hc) hx) (hd _ hc)

theorem concs_take {ρ : Rho} (n : Nat) {l : List VV} {x : List Value} (h : concs E ρ l = some x) : concs E ρ (l.take n) = some (x.take n) := by
  have hl := concs_length E h
  refine concs_of E _ _ (by simp [hl]) fun i v hv => ?_
  rw [List.getElem?_take] at hv
  split at hv
  · rename_i hi
    obtain ⟨y, hy, hx⟩ := concs_get E h i v hv
    exact ⟨y, hy, by rw [List.getElem?_take, if_pos hi]; exact hx⟩
  · cases hv
theorem concs_drop {ρ : Rho} (n : Nat) {l : List VV} {x : List Value} (h : concs E ρ l = some x) : concs E ρ (l.drop n) = some (x.drop n) := by
  have hl := concs_length E h
  refine concs_of E _ _ (by simp [hl]) fun i v hv => ?_
  rw [List.getElem?_drop] at hv
  obtain ⟨y, hy, hx⟩ := concs_get E h _ v hv
  exact ⟨y, hy, by rw [List.getElem?_drop]; exact hx⟩

/-- pairs of a number and a value -/
def PairsOk (E : Nat → Value) (ρ : Rho) : List (Nat × VV) → List (Nat × Value) → Prop
  | [], [] => True
  | (i, x) :: l, (j, y) :: m => i = j ∧ conc E ρ x = some y ∧ PairsOk E ρ l m
  | _, _ => False

theorem fill_sound (hE : Plain E) {ρ : Rho} {place : Nat → Option (Nat × Nat)} {parts : List (Nat × VV)} : ∀ {parts' : List (Nat × Value)} {cells out : List VV} {C : List Value}, PairsOk E ρ parts parts' → concs E ρ cells = some C → fillL place parts cells = some out →
    ∃ D, concs E ρ out = some D ∧ Instr.fill place C.toArray parts' = some D.toArray := by
  induction parts with
  | nil =>
    intro parts' cells out C hp hc h
    cases parts' with
    | nil => simp only [fillL, Option.some.injEq] at h; subst h; exact ⟨C, hc, rfl⟩
    | cons q m => exact hp.elim
  | cons q l ih =>
    intro parts' cells out C hp hc h
    obtain ⟨i, x⟩ := q
    cases parts' with
    | nil => exact hp.elim
    | cons q' m =>
      obtain ⟨j, y⟩ := q'
      obtain ⟨rfl, hy, hp⟩ := hp
      unfold fillL at h
      cases hpl : place i with
      | none => rw [hpl] at h; cases h
      | some p =>
        obtain ⟨off, size⟩ := p
        rw [hpl] at h
        simp only at h
        split at h
        · rename_i hc2
          have hcs := conc_cells hE hy
          have hl1 := concs_length E hcs
          have hl2 := concs_length E hc
          rw [Array.length_toList] at hl1
          obtain ⟨D, hD, hF⟩ := ih hp (splice_conc hc hcs hc2.2) h
          refine ⟨D, hD, ?_⟩
          simp only [Instr.fill, hpl]
          rw [if_neg (by simp; omega), ← hF]
          have h0 := foldl_wr off y.cells.toList 0 C.toArray (by simp; omega)
          rw [Nat.add_zero] at h0
          have h1 : (y.cells.zipIdx.foldl (fun cs (p : Value × Nat) => cs.setIfInBounds (off + p.2) p.1) C.toArray) = wrArr C.toArray off y.cells.toList := by
            rw [← h0, ← Array.foldl_toList]
            simp
          rw [Array.toArray_toList, ← h1]
        · cases h

theorem pairsK_conc : ∀ {ps : List (Nat × Operand)} {k : K (T VV → List (Nat × VV))} (_ : pairsK ps = .ok k) {ρ : Rho} {t : T VV} {a : Act} (_ : Glob ρ) (_ : ∀ i, .tmp i ∈ ps.map (·.2) → On E ρ t a i), PairsOk E ρ (k.f t) (ps.map fun p => (p.1, a.eval p.2))
  | [], k, hk, ρ, t, a, hg, hs => by cases hk; trivial
  | (i, x) :: l, k, hk, ρ, t, a, hg, hs => by
    simp only [pairsK, R.bind_ok] at hk
    obtain ⟨kx, hx, kl, hl, hk⟩ := hk
    cases hk
    exact ⟨rfl, operK_conc E hx hg (fun i hi => hs i (by subst hi; simp)), pairsK_conc hl hg (fun i hi => hs i (by simp [hi]))⟩

theorem placesV_ok (w : World) : ∀ (fs : List Field) (pl : List (Nat × Nat)), placesV fs = .ok pl → (fs.mapM fun f => (do Pure.pure (f.offset, ← sizeOf f.type) : Sem (Nat × Nat))).run PP w = .ok pl w := by
  intro fs
  induction fs with
  | nil => intro pl h; simp only [placesV, R.ok.injEq] at h; subst h; simp
  | cons f fs ih =>
    intro pl h
    simp only [placesV, sizeV_ok, R.bind_ok] at h
    obtain ⟨i, hi, r, hr, h⟩ := h
    simp only [R.ok.injEq] at h
    subst h
    have h1 := ih r hr
    simp only [List.mapM_cons, Sem.run_bind, run_size hi, Result.andThen_ok, Sem.run_pure, h1]

theorem repl_eq {α : Type} (l : List α) : ∀ n, repl l n = (List.replicate n l).flatten
  | 0 => rfl
  | n + 1 => by
    show appN l (repl l n) = _
    rw [appN_eq, repl_eq l n]; rfl

theorem repl_length {α : Type} (l : List α) (n : Nat) : (repl l n).length = n * l.length := by
  rw [repl_eq]; simp

theorem repl_get {α : Type} (l : List α) : ∀ (n j : Nat), j < n * l.length → (repl l n)[j]? = l[j % l.length]?
  | 0, j, h => by omega
  | n + 1, j, h => by
    show (appN l (repl l n))[j]? = _
    rw [appN_eq]
    have hs : (n + 1) * l.length = n * l.length + l.length := Nat.succ_mul _ _
    by_cases hj : j < l.length
    · rw [List.getElem?_append_left hj, Nat.mod_eq_of_lt hj]
    · rw [List.getElem?_append_right (by omega), repl_get l n _ (by omega)]
      congr 1
      exact (Nat.mod_eq_sub_mod (by omega)).symm

theorem repl_conc {ρ : Rho} {l : List VV} {x : List Value} (h : concs E ρ l = some x) : ∀ n, concs E ρ (repl l n) = some (repl x n)
  | 0 => rfl
  | n + 1 => by
    show concs E ρ (appN l (repl l n)) = some (appN x (repl x n))
    rw [appN_eq, appN_eq]
    exact concs_append E h (repl_conc h n)

theorem range_map_mod (z : Array Value) (n : Nat) (h : n = 0 ∨ z.size ≠ 0) : ((Array.range (n * z.size)).map (z[· % z.size]!)) = (repl z.toList n).toArray := by
  apply Array.ext'
  apply List.ext_getElem?
  intro j
  rw [Array.getElem?_toList, Array.getElem?_map]
  by_cases hj : j < n * z.size
  · rw [repl_get z.toList n j (by simpa using hj)]
    have hz : 0 < z.size := by
      rcases Nat.eq_zero_or_pos z.size with e | e
      · rw [e] at hj; simp at hj
      · exact e
    have hm : j % z.size < z.size := Nat.mod_lt _ hz
    rw [show (Array.range (n * z.size))[j]? = some j by simp [hj]]
    simp [hm]
  · have h1 : (Array.range (n * z.size))[j]? = none := by simp; omega
    rw [h1, Option.map_none]
    symm
    rw [List.getElem?_eq_none_iff]
    rw [repl_length]; simpa using hj

end
end Go.Ev
