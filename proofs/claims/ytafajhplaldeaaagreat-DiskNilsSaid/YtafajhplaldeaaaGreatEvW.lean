/- The plain operations: the rest. -/
import Derived.Test.YtafajhplaldeaaaGreatEvU
import Derived.Laws.MakeOwn
import GoSem.Instr.Range
import GoSem.Instr.Next
import GoSem.Instr.TypeAssert
import GoSem.Instr.MakeMap
import GoSem.Instr.MakeInterface
import GoSem.Instr.MakeFunc
import GoSem.Instr.Extract
import GoSem.Builtin.Len
import GoSem.Builtin.Cap
import GoSem.Builtin.Max
import GoSem.Builtin.Min
import GoSem.Builtin.UnsafeString
import GoSem.Builtin.UnsafeSliceData
set_option linter.unusedVariables false
set_option linter.unusedSimpArgs false
namespace Go.Ev
open Go
attribute [local irreducible] PP

section
variable {E : Nat → Value}

/-! ### made slices, maps -/
theorem makeSl_snd (hE : Plain E) {t : TypeId} {l c : K (T VV → VV)} {k : Cl} (hk : makeSlK t l c = .ok k) {sl : T VV} {H H' : VH} {v : VV} (h : k.f sl H = .ok v H') :
    VSnd E H v H' (fun ρ _ s => ∃ l' c', conc E ρ (l.f sl) = some l' ∧ conc E ρ (c.f sl) = some c' ∧ s = Instr.makeSlice t l' c') := by
  unfold makeSlK at hk
  rw [elemV_ok] at hk
  obtain ⟨el, hd, hk⟩ := hk
  rw [R.of_ok] at hk
  obtain ⟨i, hi, hk⟩ := hk
  rw [zeroV_ok] at hk
  obtain ⟨i', z, zx, hi', hz, hzx, hk⟩ := hk
  rw [hi] at hi'; cases hi'
  rw [R.when_ok, beq_iff] at hk
  obtain ⟨hzl, hk⟩ := hk
  simp only [R.ok.injEq] at hk
  subst hk
  simp only [natV_ok, RV.when_ok, ble_iff] at h
  obtain ⟨j, n, hl, j', m, hc, h1, h2, h3, h⟩ := h
  refine newRow_snd h ?_
  rintro ρ w s ⟨l', c', hl', hc', rfl⟩
  rw [hl] at hl'; rw [hc] at hc'
  rw [conc_int hl', conc_int hc']
  have hzc := conc_cells hE (abst_conc E (ρ := ρ) 20 z zx hzx)
  have hzs : z.cells.size = i.size := by
    have := concs_length E hzc
    rw [Array.length_toList] at this
    rw [this, hzl]
  have hcells := repl_conc hzc m
  refine ⟨_, hcells, .slice (some ⟨w.heap.size, 0, none⟩) n m, ?_, by
    have hr : room ⟨w.heap.size, 0, (repl z.cells.toList m).length⟩ 0 (some m) i.size = true := by
      refine ble_iff.2 ?_
      rw [repl_length, Array.length_toList, hzs]
      exact Nat.le_refl _
    simp [conc, upd_same, capOf, h1, hr]⟩
  have h3' : i.bytes * m ≤ 281474976710656 := h3
  have hb : (i.bytes : Int) * (m : Int) ≤ 281474976710656 := by
    have : ((i.bytes * m : Nat) : Int) ≤ 281474976710656 := by omega
    rwa [Int.natCast_mul] at this
  have hr := run_make (P := PP) w t el i z hd hi hz j j' (n : Int) (m : Int) (by omega) (by omega) hb (by omega)
  have hcell : madeCells z.cells (m * i.size) = (repl z.cells.toList m).toArray := by
    unfold madeCells
    by_cases h0 : m * i.size = 0
    · rw [h0]
      have : (repl z.cells.toList m).length = 0 := by rw [repl_length, Array.length_toList, hzs, h0]
      rw [List.length_eq_zero_iff] at this
      rw [this]; simp
    · rw [← hzs]
      refine range_map_mod _ m ?_
      rw [hzs]
      exact .inr (fun e => h0 (by rw [e]; simp))
  simp only [Int.toNat_natCast] at hr
  rw [hcell] at hr
  exact hr

theorem makeMap_snd {t kt el : TypeId} (ht : PP.underlying t = some (.map kt el)) {r : Option VV} {H H' : VH} {v : VV} (h : evMakeMap r H = .ok v H') :
    VSnd E H v H' (fun ρ _ s => ∃ r', OptOk E ρ r r' ∧ s = Instr.makeMap t r') := by
  have key : newO H (.map [] (some ([], 0))) (fun b H => .ok (.map b) H) = .ok v H' ∧ (r = none ∨ ∃ k n, r = some (.int k n)) := by
    cases r with
    | none => exact ⟨h, .inl rfl⟩
    | some x =>
      simp only [evMakeMap, asInt_ok] at h
      obtain ⟨k, n, rfl, h⟩ := h
      exact ⟨h, .inr ⟨k, n, rfl⟩⟩
  obtain ⟨h, hr⟩ := key
  rw [newO_eq] at h
  simp only [RV.ok.injEq] at h
  obtain ⟨rfl, rfl⟩ := h
  refine VSnd.new fun ρ w s hS _ hn => ?_
  obtain ⟨r', hr', rfl⟩ := hS
  refine ⟨.map (some w.heap.size), ⟨w.heap.size, 0, 0⟩, .map #[] 0, w.alloc (.map #[] 0), ?_, rfl, rfl, rfl, rfl, rfl, ⟨_, #[], 0, upd_same _ _ _ _, fun v' hv => ?_, World.alloc_heap_new w _, rfl, fun bs k h => by cases h; exact ⟨rfl, rfl⟩⟩, by simp [conc, upd_same]⟩
  · rcases hr with rfl | ⟨k, n, rfl⟩
    · cases r' with
      | none => simp [Instr.makeMap]
      | some y => exact hr'.elim
    · cases r' with
      | none => exact hr'.elim
      | some y =>
        rw [conc_int hr']
        simp [Instr.makeMap, run_und ht, Go.asInt, asIntOf]
  · unfold upd; rw [if_neg (by omega)]; exact hn v'

/-! ### iterators -/
theorem range_snd {t : TypeId} {d : TypeDesc} (ht : PP.underlying t = some d) {x : VV} {H H' : VH} {v : VV} (h : rangeV d x H = .ok v H') :
    VSnd E H v H' (fun ρ _ s => ∃ x', conc E ρ x = some x' ∧ s = Instr.range t x') := by
  unfold rangeV at h
  cases d <;> try (simp only [reduceCtorEq] at h; done)
  case string =>
    simp only [asStr_ok, newO_eq, RV.ok.injEq] at h
    obtain ⟨n, s, rfl, rfl, rfl⟩ := h
    refine VSnd.new fun ρ w s' hS _ hn => ?_
    obtain ⟨x', hx, rfl⟩ := hS
    obtain ⟨hl, hb, rfl⟩ := conc_str hx
    refine ⟨.pointer (some ⟨w.heap.size, 0, none⟩), ⟨w.heap.size, 0, 0⟩, .stringIter (toBA s) 0, w.alloc (.stringIter (toBA s) 0), ?_, rfl, rfl, rfl, rfl, rfl, ⟨_, upd_same _ _ _ _, rfl, fun v' hv => ?_, World.alloc_heap_new w _, hl, hb⟩, by simp [conc, upd_same]⟩
    · simp [Instr.range, run_und ht]
    · unfold upd; rw [if_neg (by omega)]; exact hn v'
  case map kt el =>
    cases x <;> try (simp only [reduceCtorEq] at h; done)
    case mnil =>
      simp only [newO_eq, RV.ok.injEq] at h
      obtain ⟨rfl, rfl⟩ := h
      refine VSnd.new fun ρ w s hS _ hn => ?_
      obtain ⟨x', hx, rfl⟩ := hS
      simp only [conc, Option.some.injEq] at hx
      subst hx
      refine ⟨.pointer (some ⟨w.heap.size, 0, none⟩), ⟨w.heap.size, 0, 0⟩, .mapIter none 0 #[] 0, w.alloc (.mapIter none 0 #[] 0), ?_, rfl, rfl, rfl, rfl, rfl, ⟨_, none, upd_same _ _ _ _, rfl, fun v' hv => ?_, rfl, World.alloc_heap_new w _⟩, by simp [conc, upd_same]⟩
      · simp [Instr.range, run_und ht]
      · unfold upd; rw [if_neg (by omega)]; exact hn v'
    case map c =>
      simp only at h
      split at h
      · rename_i es bs k hm
        simp only [touchK_eq, newO_eq, RV.ok.injEq] at h
        obtain ⟨rfl, rfl⟩ := h
        refine VSnd.touch hm (VSnd.new fun ρ w s hS _ hn => ?_)
        obtain ⟨⟨x', hx, rfl⟩, q, es', k', hq, _, hw, hc, hst⟩ := hS
        obtain ⟨_, rfl⟩ := hst _ _ rfl
        simp only [conc, hq, Option.map_some, Option.some.injEq] at hx
        subst hx
        refine ⟨.pointer (some ⟨w.heap.size, 0, none⟩), ⟨w.heap.size, 0, 0⟩, .mapIter (some q.blk) k' #[] k', w.alloc (.mapIter (some q.blk) k' #[] k'), ?_, rfl, rfl, rfl, rfl, rfl, ⟨_, some q.blk, upd_same _ _ _ _, rfl, fun v' hv => ?_, ⟨q, upd_le (hn 0) _ _ _ hq, rfl⟩, World.alloc_heap_new w _⟩, by simp [conc, upd_same]⟩
        · simp [Instr.range, run_und ht, run_getObj hw trivial]
        · unfold upd; rw [if_neg (by omega)]; exact hn v'
      · cases h

theorem forced1 : (Question.mapNext 1).forced = true := rfl

theorem nextMap_snd {ty : TypeId} {b c since last : Nat} {seen : Option Nat} {H H' : VH} {v : VV} (ho : H.m.get b = some (.miter (some c) since seen last)) (h : nextMap b c since seen last H = .ok v H') :
    VSnd E H v H' (fun ρ _ s => ∃ x', conc E ρ (.ptr b 0 0) = some x' ∧ s = Instr.next x' false ty) := by
  unfold nextMap at h
  split at h
  · rename_i st hm
    simp only [touchK_eq, RV.ok.injEq] at h
    obtain ⟨rfl, rfl⟩ := h
    refine VSnd.touch hm (VSnd.touch (H := tch H c) ho (VSnd.pure ?_))
    rintro ρ w s ⟨⟨⟨x', hx, rfl⟩, q, es', k, hq, _, hwq, hc, _⟩, p, mb, hp, hbase, _, ⟨q', hq', rfl⟩, hw⟩ _
    obtain rfl := Option.some.inj (hq.symm.trans hq')
    obtain ⟨r, hr, rfl⟩ := conc_ptr hx
    obtain rfl := Option.some.inj (hp.symm.trans hr)
    have he : es' = #[] := by
      have := concP_len hc
      rw [List.length_map, Array.length_toList] at this
      exact Array.size_eq_zero_iff.1 this
    subst he
    refine ⟨.tuple #[.bool false], ?_, by simp [conc, concs]⟩
    rw [hbase]
    simp [Instr.next, run_getObj hw trivial, run_getObj hwq trivial, forced1]
  · rename_i key val x k hm
    split at h
    · simp only [RV.when_ok, blt_iff, touchK_eq, putO_eq, RV.ok.injEq] at h
      obtain ⟨hlt, rfl, rfl⟩ := h
      refine VSnd.touch hm (VSnd.put (H := tch H c) ho ?_)
      rintro ρ w s ⟨⟨x', hx, rfl⟩, q, es', k', hq, _, hwq, hc, hst⟩ _ ⟨p, mb, hp, hbase, hnn, ⟨q', hq', rfl⟩, hw⟩
      obtain rfl := Option.some.inj (hq.symm.trans hq')
      obtain ⟨r, hr, rfl⟩ := conc_ptr hx
      obtain rfl := Option.some.inj (hp.symm.trans hr)
      obtain ⟨hb, rfl⟩ := hst _ _ rfl
      have hlt' : p.blk < w.heap.size := (Array.getElem?_eq_some_iff.1 hw).1
      obtain ⟨e, rfl, rfl⟩ : ∃ e, es' = #[e] ∧ e.born = x := by
        have h1 : es'.toList.length = 1 := by have := congrArg List.length hb; simpa using this
        obtain ⟨e, he⟩ := List.length_eq_one_iff.1 h1
        refine ⟨e, Array.toList_inj.1 (by rw [he]), ?_⟩
        rw [he] at hb
        simpa using hb
      simp only [concP, Option.bind_eq_some_iff, Option.map_eq_some_iff, List.map_cons, List.map_nil, Option.some.injEq] at hc
      obtain ⟨a1, ha1, a2, ha2, r', hr', he'⟩ := hc
      subst hr'
      simp only [List.cons.injEq, Prod.mk.injEq, and_true] at he'
      obtain ⟨rfl, rfl⟩ := he'
      refine ⟨.tuple #[.bool true, e.key, e.val], 0, p, .mapIter (some q.blk) since #[e.born] k', w.putObj p.blk (.mapIter (some q.blk) since #[e.born] k'), hp, hlt', ?_, rfl, rfl, rfl, rfl, fun hw' => ⟨p, some q.blk, hp, hbase, hnn, ⟨q, hq, rfl⟩, hw'⟩, by simp [conc, concs, ha1, ha2]⟩
      rw [hbase]
      have hge : ¬ (since ≤ e.born) := by omega
      simp [Instr.next, run_getObj hw trivial, run_getObj hwq trivial, forced1, seenArr, hlt, hge, run_setObj hw trivial]
    · simp only [RV.when_ok, Bool.and_eq_true, beq_iff, blt_iff, touchK_eq, RV.ok.injEq] at h
      rename_i y
      obtain ⟨⟨rfl, hlt⟩, rfl, rfl⟩ := h
      refine VSnd.touch hm (VSnd.touch (H := tch H c) ho (VSnd.pure ?_))
      rintro ρ w s ⟨⟨⟨x', hx, rfl⟩, q, es', k', hq, _, hwq, hc, hst⟩, p, mb, hp, hbase, _, ⟨q', hq', rfl⟩, hw⟩ _
      obtain rfl := Option.some.inj (hq.symm.trans hq')
      obtain ⟨r, hr, rfl⟩ := conc_ptr hx
      obtain rfl := Option.some.inj (hp.symm.trans hr)
      obtain ⟨hb, rfl⟩ := hst _ _ rfl
      obtain ⟨e, rfl, rfl⟩ : ∃ e, es' = #[e] ∧ e.born = x := by
        have h1 : es'.toList.length = 1 := by have := congrArg List.length hb; simpa using this
        obtain ⟨e, he⟩ := List.length_eq_one_iff.1 h1
        refine ⟨e, Array.toList_inj.1 (by rw [he]), ?_⟩
        rw [he] at hb
        simpa using hb
      simp only [concP, Option.bind_eq_some_iff, Option.map_eq_some_iff, List.map_cons, List.map_nil, Option.some.injEq] at hc
      obtain ⟨a1, ha1, a2, ha2, r', hr', he'⟩ := hc
      subst hr'
      simp only [List.cons.injEq, Prod.mk.injEq, and_true] at he'
      obtain ⟨rfl, rfl⟩ := he'
      refine ⟨.tuple #[.bool false], ?_, by simp [conc, concs]⟩
      rw [hbase]
      have hge : ¬ (last ≤ e.born) := by omega
      simp [Instr.next, run_getObj hw trivial, run_getObj hwq trivial, forced1, seenArr, hlt, hge]
  · cases h

theorem entry_snd {x : VV} {H H' : VH} {v : VV} (h : entryV x H = .ok v H') : VSnd E H v H' (fun ρ _ s => ∃ x', conc E ρ x = some x' ∧ s = Instr.entry x') := by
  unfold entryV at h
  rw [asPtr_ok] at h
  obtain ⟨b, u, o, rfl, h⟩ := h
  rw [RV.when_ok] at h
  simp only [Bool.and_eq_true, beq_iff] at h
  obtain ⟨⟨rfl, rfl⟩, h⟩ := h
  split at h
  · rename_i c since y last ho
    split at h
    · rename_i key val x k hm
      simp only [RV.when_ok, Bool.and_eq_true, beq_iff, touchK_eq, RV.ok.injEq] at h
      obtain ⟨⟨rfl, rfl⟩, rfl, rfl⟩ := h
      refine VSnd.touch hm (VSnd.touch (H := tch H c) ho (VSnd.pure ?_))
      rintro ρ w s ⟨⟨⟨x', hx, rfl⟩, q, es', k', hq, _, hwq, hc, hst⟩, p, mb, hp, hbase, _, ⟨q', hq', rfl⟩, hw⟩ _
      obtain rfl := Option.some.inj (hq.symm.trans hq')
      obtain ⟨r, hr, rfl⟩ := conc_ptr hx
      obtain rfl := Option.some.inj (hp.symm.trans hr)
      obtain ⟨hb, rfl⟩ := hst _ _ rfl
      obtain ⟨e, rfl, rfl⟩ : ∃ e, es' = #[e] ∧ e.born = x := by
        have h1 : es'.toList.length = 1 := by have := congrArg List.length hb; simpa using this
        obtain ⟨e, he⟩ := List.length_eq_one_iff.1 h1
        refine ⟨e, Array.toList_inj.1 (by rw [he]), ?_⟩
        rw [he] at hb
        simpa using hb
      simp only [concP, Option.bind_eq_some_iff, Option.map_eq_some_iff, List.map_cons, List.map_nil, Option.some.injEq] at hc
      obtain ⟨a1, ha1, a2, ha2, r', hr', he'⟩ := hc
      subst hr'
      simp only [List.cons.injEq, Prod.mk.injEq, and_true] at he'
      obtain ⟨rfl, rfl⟩ := he'
      refine ⟨.tuple #[e.key, e.val], ?_, by simp [conc, concs, ha1, ha2]⟩
      rw [hbase]
      simp [Instr.entry, run_getObj hw trivial, run_getObj hwq trivial, seenArr]
    · cases h
  · cases h

theorem next_snd {isS : Bool} {ty : TypeId} {x : VV} {H H' : VH} {v : VV} (h : nextV isS x H = .ok v H') : VSnd E H v H' (fun ρ _ s => ∃ x', conc E ρ x = some x' ∧ s = Instr.next x' isS ty) := by
  unfold nextV at h
  rw [asPtr_ok] at h
  obtain ⟨b, u, o, rfl, h⟩ := h
  rw [RV.when_ok] at h
  simp only [Bool.and_eq_true, beq_iff] at h
  obtain ⟨⟨rfl, rfl⟩, h⟩ := h
  split at h
  · rename_i n s pos ho
    cases isS with
    | false => cases h
    | true =>
      simp only [nextStr] at h
      split at h
      · rename_i hlt
        simp only [natK_eq, putO_eq, RV.ok.injEq] at h
        obtain ⟨rfl, rfl⟩ := h
        refine VSnd.put ho ?_
        rintro ρ w s' ⟨x', hx, rfl⟩ _ ⟨p, hp, hbase, hnn, hw, hl, hb⟩
        obtain ⟨q, hq, rfl⟩ := conc_ptr hx
        obtain rfl := Option.some.inj (hp.symm.trans hq)
        have hlt' : p.blk < w.heap.size := (Array.getElem?_eq_some_iff.1 hw).1
        have hpos : pos < (toBA s).size := by rw [toBA_size, ← hl]; exact blt_iff.1 hlt
        refine ⟨.tuple #[.bool true, .int .i64 (Int.ofNat pos), .int .i32 (Int.ofNat (Utf8.decode (toBA s) pos).1)], 0, p, .stringIter (toBA s) (pos + (Utf8.decode (toBA s) pos).2), w.putObj p.blk _, hp, hlt', ?_, rfl, rfl, rfl, rfl, fun hw' => ⟨p, hp, hbase, hnn, hw', hl, hb⟩, ?_⟩
        · rw [hbase]
          simp only [Instr.next, Nat.add_zero, Sem.run_bind, run_getObj hw trivial, Result.andThen_ok, Sem.run_ite, if_pos hpos, run_setObj hw trivial, Sem.run_pure]
          rfl
        · simp [conc, concs]
      · rename_i hlt
        rw [touchK_eq] at h
        simp only [RV.ok.injEq] at h
        obtain ⟨rfl, rfl⟩ := h
        refine VSnd.touch ho (VSnd.pure ?_)
        rintro ρ w s' ⟨⟨x', hx, rfl⟩, p, hp, hbase, hnn, hw, hl, hb⟩ _
        obtain ⟨q, hq, rfl⟩ := conc_ptr hx
        obtain rfl := Option.some.inj (hp.symm.trans hq)
        have hpos : ¬ (pos < (toBA s).size) := by rw [toBA_size, ← hl]; have := blt_no hlt; omega
        refine ⟨.tuple #[.bool false], ?_, by simp [conc, concs]⟩
        rw [hbase]
        simp only [Instr.next, Nat.add_zero, Sem.run_bind, run_getObj hw trivial, Result.andThen_ok, Sem.run_ite, if_neg hpos, Sem.run_pure]
  · rename_i a1 a2 a3 ho
    cases isS with
    | true => cases h
    | false =>
      simp only [touchK_eq, RV.ok.injEq] at h
      obtain ⟨rfl, rfl⟩ := h
      refine VSnd.touch ho (VSnd.pure ?_)
      rintro ρ w s' ⟨⟨x', hx, rfl⟩, p, mb, hp, hbase, hnn, rfl, hw⟩ _
      obtain ⟨q, hq, rfl⟩ := conc_ptr hx
      obtain rfl := Option.some.inj (hp.symm.trans hq)
      refine ⟨.tuple #[.bool false], ?_, by simp [conc, concs]⟩
      rw [hbase]
      simp only [Instr.next, Nat.add_zero, Sem.run_bind, run_getObj hw trivial, Result.andThen_ok, Sem.run_pure]
  · rename_i c since seen last ho
    cases isS with
    | true => cases h
    | false => exact nextMap_snd ho h
  · cases h

/-! ### interfaces -/
theorem missV_ok {want : Array (String × TypeId)} {t : TypeId} {r : Bool} (h : missV want t = .ok r) : ∃ i, PP.info? t = some i ∧ (match Instr.missingMethod want i.methods with | none => r = true | some _ => r = false) := by
  unfold missV at h
  rw [R.of_ok] at h
  obtain ⟨i, hi, h⟩ := h
  refine ⟨i, hi, ?_⟩
  cases hm : Instr.missingMethod want i.methods with
  | none => rw [hm] at h; simp only [R.ok.injEq] at h; exact h.symm
  | some m => rw [hm] at h; simp only [R.ok.injEq] at h; exact h.symm

theorem typeAssert_snd {xt ty : TypeId} {d : TypeDesc} {i : TypeInfo} {zv : Value} {z : VV} {ok : Bool} (hd : PP.underlying ty = some d) (hi : PP.info? ty = some i) (hzero : i.zero = some zv) (hz : abst 20 zv = some z) {x : VV} {H H' : VH} {v : VV}
    (h : typeAssertV d z ty ok x H = .ok v H') : VSnd E H v H' (fun ρ _ s => ∃ x', conc E ρ x = some x' ∧ s = Instr.typeAssert x' xt ty ok) := by
  have hu := fun w => run_und hd w
  have fails : ∀ {H H' : VH} {v : VV}, failsV z ok H = .ok v H' → H' = H ∧ ok = true ∧ v = .tup [z, .bool false] := fun h => by
    unfold failsV at h
    cases ok <;> simp only [reduceCtorEq, RV.ok.injEq] at h
    exact ⟨h.2.symm, rfl, h.1.symm⟩
  have holds : ∀ {y : VV} {H H' : VH} {v : VV}, holdsV ok y H = .ok v H' → H' = H ∧ ∀ (ρ : Rho) y', conc E ρ y = some y' → conc E ρ v = some (if ok then .tuple #[y', .bool true] else y') := fun h => by
    unfold holdsV at h
    cases ok <;> simp only [RV.ok.injEq] at h <;> refine ⟨h.2.symm, fun ρ y' hy => ?_⟩
    · rw [← h.1]; simpa using hy
    · rw [← h.1]; simp [conc, concs, hy]
  have zc : ∀ ρ : Rho, conc E ρ (.tup [z, .bool false]) = some (.tuple #[zv, .bool false]) := fun ρ => by
    simp [conc, concs, abst_conc E (ρ := ρ) 20 zv z hz]
  unfold typeAssertV at h
  cases x <;> try (simp only [reduceCtorEq] at h; done)
  case inil =>
    obtain ⟨rfl, rfl, rfl⟩ := fails h
    refine VSnd.pure ?_
    rintro ρ w s ⟨x', hx, rfl⟩ _
    simp only [conc, Option.some.injEq] at hx
    subst hx
    refine ⟨_, ?_, zc ρ⟩
    cases d <;> simp only [Instr.typeAssert, Sem.run_bind, hu, Result.andThen_ok, if_true, run_zero hi hzero, Sem.run_pure]
  case iface t y =>
    simp only at h
    split at h
    · rename_i want
      rw [RV.from_ok] at h
      obtain ⟨r, hr, h⟩ := h
      obtain ⟨it, hit, hm⟩ := missV_ok hr
      cases r with
      | true =>
        obtain ⟨rfl, hv⟩ := holds h
        refine VSnd.pure ?_
        rintro ρ w s ⟨x', hx, rfl⟩ _
        have hx2 := hx
        simp only [conc, Option.map_eq_some_iff] at hx
        obtain ⟨y', hy, rfl⟩ := hx
        refine ⟨_, ?_, hv ρ _ hx2⟩
        cases hmm : Instr.missingMethod want it.methods with
        | some m => rw [hmm] at hm; cases hm
        | none => simp only [Instr.typeAssert, Sem.run_bind, hu, Result.andThen_ok, run_info hit, hmm, Sem.run_pure]
      | false =>
        obtain ⟨rfl, rfl, rfl⟩ := fails h
        refine VSnd.pure ?_
        rintro ρ w s ⟨x', hx, rfl⟩ _
        simp only [conc, Option.map_eq_some_iff] at hx
        obtain ⟨y', hy, rfl⟩ := hx
        refine ⟨_, ?_, zc ρ⟩
        cases hmm : Instr.missingMethod want it.methods with
        | none => rw [hmm] at hm; cases hm
        | some m => simp only [Instr.typeAssert, Sem.run_bind, hu, Result.andThen_ok, run_info hit, hmm, if_true, run_zero hi hzero, Sem.run_pure]
    · rename_i hni
      have hst : ∀ (y' : Value) (w : World), (Instr.typeAssert (.iface t y') xt ty ok).run PP w = (if t = ty then (Pure.pure (if ok then .tuple #[y', .bool true] else y') : Sem Value) else (if ok then (do Pure.pure (.tuple #[← zeroValue ty, .bool false]) : Sem Value) else runtimePanic (.typeAssertion (some xt) (some t) ty ""))).run PP w := fun y' w => by
        cases d <;> first | exact absurd rfl (hni _) | simp only [Instr.typeAssert, Sem.run_bind, hu, Result.andThen_ok]
      split at h
      · rename_i hb
        rw [beq_iff] at hb
        obtain ⟨rfl, hv⟩ := holds h
        refine VSnd.pure ?_
        rintro ρ w s ⟨x', hx, rfl⟩ _
        simp only [conc, Option.map_eq_some_iff] at hx
        obtain ⟨y', hy, rfl⟩ := hx
        refine ⟨_, ?_, hv ρ y' hy⟩
        rw [hst, if_pos hb, Sem.run_pure]
      · rename_i hb
        have hb := beq_no hb
        obtain ⟨rfl, rfl, rfl⟩ := fails h
        refine VSnd.pure ?_
        rintro ρ w s ⟨x', hx, rfl⟩ _
        simp only [conc, Option.map_eq_some_iff] at hx
        obtain ⟨y', hy, rfl⟩ := hx
        refine ⟨_, ?_, zc ρ⟩
        rw [hst, if_neg hb]
        simp only [if_true, Sem.run_bind, run_zero hi hzero, Result.andThen_ok, Sem.run_pure]

end
end Go.Ev
