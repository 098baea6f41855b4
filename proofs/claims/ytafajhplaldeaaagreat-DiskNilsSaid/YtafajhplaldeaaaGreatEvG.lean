/- The plain operations, one by one: memory. -/
import Derived.Test.YtafajhplaldeaaaGreatEvF
import GoSem.Instr.Alloc
set_option linter.unusedVariables false
set_option linter.unusedSimpArgs false
namespace Go.Ev
open Go

section
variable {E : Nat → Value}

theorem loadK_snd {t : TypeId} {a : K (T VV → VV)} {k : Cl} (hk : loadK t a = .ok k) {sl : T VV} {H H' : VH} {v : VV} (h : k.f sl H = .ok v H') :
    VSnd E H v H' (fun ρ _ s => ∃ x, conc E ρ (a.f sl) = some x ∧ s = Instr.loadAt t x) := by
  unfold loadK at hk
  rw [descV_ok] at hk
  obtain ⟨d, hd, hk⟩ := hk
  rw [sizeV_ok] at hk
  obtain ⟨i, hi, hk⟩ := hk
  cases hg : isAggD d with
  | true =>
    rw [hg] at hk
    simp only [R.ok.injEq] at hk
    subst hk
    simp only [asPtr_ok, readCells_ok] at h
    obtain ⟨b, u, o, ha, r, hr, hn, h⟩ := h
    cases h
    refine VSnd.touch hr (VSnd.pure ?_)
    rintro ρ w s ⟨⟨x, hx, rfl⟩, hR⟩ _
    rw [ha] at hx
    obtain ⟨p, hp, rfl⟩ := conc_ptr hx
    obtain ⟨xs, hxs, hl⟩ := load_cells E hR hp hn
    refine ⟨.agg xs.toArray, ?_, by simp [conc, hxs]⟩
    simp [Instr.loadAt, Instr.sureAddr, loadVar, run_agg hd, run_size hi, hg, hl]
  | false =>
    rw [hg] at hk
    simp only [R.ok.injEq] at hk
    subst hk
    simp only [asPtr_ok, readOne_ok] at h
    obtain ⟨b, u, o, ha, r, x, hr, hn, h⟩ := h
    cases h
    refine VSnd.touch hr (VSnd.pure ?_)
    rintro ρ w s ⟨⟨y, hy, rfl⟩, hR⟩ _
    rw [ha] at hy
    obtain ⟨p, hp, rfl⟩ := conc_ptr hy
    obtain ⟨z, hz, hc⟩ := cell_row E hR hp hn
    refine ⟨z, ?_, hz⟩
    simp [Instr.loadAt, Instr.sureAddr, loadVar, run_agg hd, hg, hc]

/-- cells written in a row -/
theorem store_cells (hE : Plain E) {ρ : Rho} {w : World} {b u o : Nat} {r : Row} {p : Pl} {xs : List VV} {ys : List Value} (h : RowOk E ρ w b u r) (hp : ρ b u = some p) (hf : r.fz ≤ o) (h1 : ∀ x ∈ xs, x.one = true) (hn : o + xs.length ≤ r.c.length)
    (hy : concs E ρ xs = some ys) : ∃ obj, (storeCells ⟨p.blk, p.base + o, none⟩ ys).run PP w = .ok () (w.putObj p.blk obj) ∧ p.blk < w.heap.size ∧
      (∀ w', w'.heap[p.blk]? = some obj → RowOk E ρ w' b u { r with c := r.c.take o ++ xs ++ r.c.drop (o + xs.length) }) := by
  obtain ⟨q, C, lo, hi, a1, a2, a3, a4, a5, a6, a7, a8⟩ := h
  rw [a1] at hp; cases hp
  have hyl := concs_length E hy
  have hsz : (p.base + o) + ys.length ≤ C.size := by omega
  have hone : ∀ y ∈ ys, y.oneCell' = true := fun y hy' => by
    obtain ⟨j, hj, rfl⟩ := List.getElem_of_mem hy'
    have hjx : j < xs.length := by omega
    obtain ⟨z, hz, hz2⟩ := concs_get E hy j _ (List.getElem?_eq_getElem hjx)
    rw [List.getElem?_eq_getElem hj] at hz2; cases hz2
    exact conc_one hE hz (h1 _ (List.getElem_mem hjx))
  have hfr : ∀ j, p.base + o + 0 ≤ j → j < p.base + o + 0 + ys.length → ¬ (lo ≤ j ∧ j < hi) := fun j h2 h3 => by
    cases hm : r.mkd with
    | true => rw [hm] at a7; simp only at a7; omega
    | false => rw [hm] at a7; simp only at a7; omega
  refine ⟨.cells (wrArr C (p.base + o) ys) r.el (lo, hi), run_store_row p.blk (p.base + o) r.el (lo, hi) ys 0 C w a3 (by omega) hone hfr, (Array.getElem?_eq_some_iff.1 a3).1, fun w' hw' => ?_⟩
  have hlen : (r.c.take o ++ xs ++ r.c.drop (o + xs.length)).length = r.c.length := by simp; omega
  refine ⟨p, _, lo, hi, a1, a2, hw', by rw [wrArr_size hsz]; exact a4, by simp only; rw [hlen]; exact a5, fun i x hx => ?_, ?_, fun ho => by simp only; rw [hlen, wrArr_size hsz]; exact a8 ho⟩
  · simp only at hx
    rw [wrArr_get hsz]
    rw [List.append_assoc] at hx
    have htl : (r.c.take o).length = o := by rw [List.length_take]; omega
    by_cases e1 : i < o
    · rw [List.getElem?_append_left (by omega), List.getElem?_take, if_pos e1] at hx
      rw [if_pos (by omega)]
      exact a6 i x hx
    · rw [List.getElem?_append_right (by omega), htl] at hx
      rw [if_neg (by omega)]
      by_cases e2 : i < o + xs.length
      · rw [List.getElem?_append_left (by omega)] at hx
        obtain ⟨z, hz, hz2⟩ := concs_get E hy _ _ hx
        rw [if_pos (by omega)]
        exact ⟨z, hz, by rw [show p.base + i - (p.base + o) = i - o by omega]; exact hz2⟩
      · rw [List.getElem?_append_right (by omega), List.getElem?_drop] at hx
        rw [if_neg (by omega)]
        exact a6 i x (by rw [← hx]; congr 1; omega)
  · cases hm : r.mkd with
    | true => rw [hm] at a7; simp only at a7 ⊢; rw [wrArr_size hsz]; exact a7
    | false => rw [hm] at a7; simp only at a7 ⊢; exact a7

/-- cells written that may end beyond the known ones -/
theorem store_cellsX (hE : Plain E) {ρ : Rho} {w : World} {b u o : Nat} {r : Row} {p : Pl} {xs : List VV} {ys : List Value} (h : RowOk E ρ w b u r) (hp : ρ b u = some p) (hf : r.fz ≤ o) (h1 : ∀ x ∈ xs, x.one = true) (hn : o + xs.length ≤ r.c.length ∨ (r.op = true ∧ o ≤ r.c.length)) (hcap : o + xs.length ≤ p.cap)
    (hy : concs E ρ xs = some ys) : ∃ obj, (storeCells ⟨p.blk, p.base + o, none⟩ ys).run PP w = .ok () (w.putObj p.blk obj) ∧ p.blk < w.heap.size ∧
      (∀ w', w'.heap[p.blk]? = some obj → RowOk E ρ w' b u { r with c := r.c.take o ++ xs ++ r.c.drop (o + xs.length) }) := by
  rcases hn with hn | ⟨hop, hn⟩
  · exact store_cells hE h hp hf h1 hn hy
  obtain ⟨q, C, lo, hi, a1, a2, a3, a4, a5, a6, a7, a8⟩ := h
  rw [a1] at hp; cases hp
  have hyl := concs_length E hy
  have hsz : (p.base + o) + ys.length ≤ C.size := by omega
  have hone : ∀ y ∈ ys, y.oneCell' = true := fun y hy' => by
    obtain ⟨j, hj, rfl⟩ := List.getElem_of_mem hy'
    have hjx : j < xs.length := by omega
    obtain ⟨z, hz, hz2⟩ := concs_get E hy j _ (List.getElem?_eq_getElem hjx)
    rw [List.getElem?_eq_getElem hj] at hz2; cases hz2
    exact conc_one hE hz (h1 _ (List.getElem_mem hjx))
  have hfr : ∀ j, p.base + o + 0 ≤ j → j < p.base + o + 0 + ys.length → ¬ (lo ≤ j ∧ j < hi) := fun j h2 h3 => by
    cases hm : r.mkd with
    | true => rw [hm] at a7; simp only at a7; omega
    | false => rw [hm] at a7; simp only at a7; omega
  refine ⟨.cells (wrArr C (p.base + o) ys) r.el (lo, hi), run_store_row p.blk (p.base + o) r.el (lo, hi) ys 0 C w a3 (by omega) hone hfr, (Array.getElem?_eq_some_iff.1 a3).1, fun w' hw' => ?_⟩
  refine ⟨p, _, lo, hi, a1, a2, hw', by rw [wrArr_size hsz]; exact a4, ?_, fun i x hx => ?_, ?_, fun ho => by simp only at ho; rw [hop] at ho; cases ho⟩
  · simp only [List.length_append, List.length_take, List.length_drop]; omega
  · simp only at hx
    rw [wrArr_get hsz]
    rw [List.append_assoc] at hx
    have htl : (r.c.take o).length = o := by rw [List.length_take]; omega
    by_cases e1 : i < o
    · rw [List.getElem?_append_left (by omega), List.getElem?_take, if_pos e1] at hx
      rw [if_pos (by omega)]
      exact a6 i x hx
    · rw [List.getElem?_append_right (by omega), htl] at hx
      rw [if_neg (by omega)]
      by_cases e2 : i < o + xs.length
      · rw [List.getElem?_append_left (by omega)] at hx
        obtain ⟨z, hz, hz2⟩ := concs_get E hy _ _ hx
        rw [if_pos (by omega)]
        exact ⟨z, hz, by rw [show p.base + i - (p.base + o) = i - o by omega]; exact hz2⟩
      · rw [List.getElem?_append_right (by omega), List.getElem?_drop] at hx
        rw [if_neg (by omega)]
        exact a6 i x (by rw [← hx]; congr 1; omega)
  · cases hm : r.mkd with
    | true => rw [hm] at a7; simp only at a7 ⊢; rw [wrArr_size hsz]; exact a7
    | false => rw [hm] at a7; simp only at a7 ⊢; exact a7

theorem storeV_snd (hE : Plain E) {t : TypeId} {i : TypeInfo} (hi : PP.info? t = some i) {a x : VV} {H H' : VH} {v : VV} (h : storeV i.size a x H = .ok v H') :
    v = undefV ∧ VSnd E H v H' (fun ρ _ s => ∃ a' x', conc E ρ a = some a' ∧ conc E ρ x = some x' ∧ s = (do Instr.storeAt t a' x'; Pure.pure undef)) := by
  unfold storeV at h
  simp only [asPtr_ok, RV.when_ok, writeCells_ok, beq_iff, lenN_eq] at h
  obtain ⟨b, u, o, rfl, hl, r, hr, hf, h1, hn, h⟩ := h
  cases h
  refine ⟨rfl, VSnd.put hr ?_⟩
  rintro ρ w s ⟨a', x', ha, hx, rfl⟩ _ hR
  obtain ⟨p, hp, rfl⟩ := conc_ptr ha
  have hc := conc_cells hE hx
  obtain ⟨obj, hrun, hlt, hok⟩ := store_cells hE hR hp hf h1 hn hc
  have hsz : x'.cells.size = i.size := by
    have := concs_length E hc
    rw [Array.length_toList] at this
    rw [this, hl]
  refine ⟨undef, u, p, obj, w.putObj p.blk obj, hp, hlt, ?_, rfl, rfl, rfl, rfl, fun hw' => hok _ hw', rfl⟩
  simp [Instr.storeAt, Instr.sureAddr, storeVar, run_size hi, hsz, hrun]

/-- a row just laid -/
theorem RowOk.fresh {ρ : Rho} {w w' : World} {b : Nat} {op mkd : Bool} {el : TypeId} {c : List VV} {C : Array Value} {lo hi : Nat} (hn : ∀ u, ρ b u = none) (hc : ∃ ys, concs E ρ c = some ys ∧ ∀ (j : Nat) y, ys[j]? = some y → C[j]? = some y)
    (hl : c.length ≤ C.size) (hw : w'.heap[w.heap.size]? = some (.cells C el (lo, hi))) (hf : match mkd with | true => lo = C.size | false => lo = hi) (ho : op = false → c.length = C.size) :
    RowOk E (upd ρ b 0 ⟨w.heap.size, 0, C.size⟩) w' b 0 ⟨op, 0, mkd, el, c⟩ := by
  obtain ⟨ys, hys, hC⟩ := hc
  refine ⟨_, C, lo, hi, upd_same _ _ _ _, fun v' hv => ?_, hw, Nat.zero_add _, hl, fun i x hx => ?_, ?_, fun h => ⟨rfl, ho h, fun hmk _ => by
    replace hmk : mkd = false := hmk
    subst hmk
    exact hf⟩⟩
  · unfold upd; rw [if_neg (by omega)]; exact hn v'
  · obtain ⟨y, hy, hy2⟩ := concs_get E hys i x hx
    exact ⟨y, conc_mono E (upd_le (hn 0)) _ _ hy, by simpa using hC i y hy2⟩
  · cases mkd with
    | true => exact .inl hf
    | false => exact .inl hf

theorem newRow_ok {op mkd : Bool} {el : TypeId} {c : List VV} {H H' : VH} {k : Nat → VV} {v : VV} : newRow op mkd el c H k = .ok v H' ↔ v = k H.nx ∧ H' = newh H (.cells 0 ⟨op, 0, mkd, el, c⟩) := by
  unfold newRow
  rw [newO_eq]
  simp only [RV.ok.injEq]
  exact ⟨fun ⟨h1, h2⟩ => ⟨h1.symm, h2.symm⟩, fun ⟨h1, h2⟩ => ⟨h1.symm, h2.symm⟩⟩

/-- a new row, exactly its cells -/
theorem newRow_snd {el : TypeId} {c : List VV} {H H' : VH} {k : Nat → VV} {v : VV} {S : Rho → World → Sem Value → Prop} (h : newRow false false el c H k = .ok v H')
    (hs : ∀ ρ w s, S ρ w s → ∃ ys, concs E ρ c = some ys ∧ ∃ v', s.run PP w = .ok v' (w.alloc (.cells ys.toArray el)) ∧ conc E (upd ρ H.nx 0 ⟨w.heap.size, 0, ys.length⟩) (k H.nx) = some v') : VSnd E H v H' S := by
  rw [newRow_ok] at h
  obtain ⟨rfl, rfl⟩ := h
  refine VSnd.new fun ρ w s hS _ hn => ?_
  obtain ⟨ys, hys, v', hr, hv⟩ := hs ρ w s hS
  have hl := concs_length E hys
  refine ⟨v', ⟨w.heap.size, 0, ys.length⟩, .cells ys.toArray el, _, hr, rfl, rfl, rfl, rfl, rfl, ?_, hv⟩
  have := RowOk.fresh (E := E) (ρ := ρ) (w := w) (w' := w.alloc (.cells ys.toArray el)) (b := H.nx) (op := false) (mkd := false) (el := el) (c := c) (C := ys.toArray) (lo := 0) (hi := 0) hn
    ⟨ys, hys, fun j y hy => by simpa using hy⟩ (by simp [hl]) (World.alloc_heap_new w _) rfl (fun _ => by simp [hl])
  rw [show ys.toArray.size = ys.length by simp] at this
  exact this

theorem alloc_snd (hE : Plain E) {el : TypeId} {i : TypeInfo} {z : Value} {x : VV} (hi : PP.info? el = some i) (hz : i.zero = some z) (hx : abst 20 z = some x) {H H' : VH} {v : VV} (h : newRow false false el x.cells H (fun b => .ptr b 0 0) = .ok v H') :
    VSnd E H v H' (fun _ _ s => s = Instr.alloc el true (.tuple #[])) := by
  refine newRow_snd h ?_
  rintro ρ w s rfl
  refine ⟨_, conc_cells hE (abst_conc E 20 z x hx), .pointer (some ⟨w.heap.size, 0, none⟩), ?_, ?_⟩
  · simp [Instr.alloc, run_zero hi hz, newVar, Go.newRow]
  · simp [conc, upd_same]

theorem box_snd (hE : Plain E) {el : TypeId} {x : VV} {H H' : VH} {v : VV} (h : newRow false false el x.cells H (fun b => .ptr b 0 0) = .ok v H') :
    VSnd E H v H' (fun ρ _ s => ∃ x', conc E ρ x = some x' ∧ s = Instr.box el x') := by
  refine newRow_snd h ?_
  rintro ρ w s ⟨x', hx, rfl⟩
  refine ⟨_, conc_cells hE hx, .pointer (some ⟨w.heap.size, 0, none⟩), ?_, ?_⟩
  · simp [Instr.box, newVar, Go.newRow]
  · simp [conc, upd_same]

end
end Go.Ev
