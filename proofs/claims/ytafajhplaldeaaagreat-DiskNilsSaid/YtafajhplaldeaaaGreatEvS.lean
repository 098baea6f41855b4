/- The plain operations: conversions. -/
import Derived.Test.YtafajhplaldeaaaGreatEvR
set_option linter.unusedVariables false
set_option linter.unusedSimpArgs false
namespace Go.Ev
open Go
attribute [local irreducible] PP

section
variable {E : Nat → Value}

theorem blt_no {a b : Nat} (h : Nat.blt a b = false) : b ≤ a := by
  rcases Nat.lt_or_ge a b with e | e
  · rw [blt_iff.2 e] at h; cases h
  · exact e

/-- a row of cells has its shape -/
theorem row_shape {ρ : Rho} {w : World} {b u : Nat} {r : Row} {p : Pl} (h : RowOk E ρ w b u r) (hp : ρ b u = some p) : ∃ n, w.shape? p.blk = some (r.el, n) ∧ p.base + p.cap = n ∧ r.c.length ≤ p.cap ∧ (r.op = false → p.base = 0 ∧ r.c.length = n) := by
  obtain ⟨q, C, lo, hi, a1, a2, a3, a4, a5, a6, a7, a8⟩ := h
  obtain rfl := Option.some.inj (a1.symm.trans hp)
  exact ⟨C.size, by simp [World.shape?, a3], a4, a5, fun h => ⟨(a8 h).1, (a8 h).2.1⟩⟩

theorem run_seenAt {b o n : Nat} {e : TypeId} {w : World} (h : w.shape? b = some (e, n)) : (Conv.seenAt ⟨b, o, none⟩).run PP w = .ok ⟨b, o, none⟩ w := by
  simp only [Conv.seenAt, viewAt, Sem.run_bind, run_shape, h, Result.andThen_ok, Option.isSome_some, if_true, Sem.run_pure, Sem.run_ite]

theorem run_cellsIn {b n : Nat} {e : TypeId} {w : World} (h : w.shape? b = some (e, n)) : (cellsIn b).run PP w = .ok (some n) w := by
  simp only [cellsIn, Sem.run_bind, run_shape, h, Result.andThen_ok, Sem.run_pure]

theorem liesAt_self {e : TypeId} {i : TypeInfo} (hi : PP.info? e = some i) (h0 : 0 < i.size) (count off n : Nat) (hn : off % i.size = 0 ∧ off / i.size + n ≤ count) : liesAt PP PP.depth e count off e n = true := by
  have hd : PP.depth = (2 * (PP.types.size + Made.depth) + 1) + 1 := rfl
  have hc : PP.cellsOf e = i.size := by simp [Program.cellsOf, hi]
  rw [hd]
  simp only [liesAt, Bool.or_eq_true]
  left
  rw [hd]
  have : ¬ i.size = 0 := by omega
  simp [rowAt, hc, this, hn.1, hn.2, sameLayout]

theorem run_variablesAt {b o n cells : Nat} {e : TypeId} {i : TypeInfo} {w : World} (hi : PP.info? e = some i) (h0 : 0 < i.size) (hsh : w.shape? b = some (e, cells)) (hn : o % i.size = 0 ∧ o / i.size + n ≤ cells / i.size) :
    (variablesAt ⟨b, o, none⟩ e n).run PP w = .ok true w := by
  have hc : PP.cellsOf e = i.size := by simp [Program.cellsOf, hi]
  simp only [variablesAt, Sem.run_bind, run_program, Result.andThen_ok, run_shape, hsh, Sem.run_pure, hc, liesAt_self hi h0 _ _ _ hn]

theorem convBB_snd {src dst e e' : TypeId} (hs : PP.underlying src = some (.slice e')) (hd : PP.underlying dst = some (.slice e)) (he : PP.underlying e = some (.int .u8)) (hsd : src = dst) {x : VV} {H H' : VH} {v : VV} (h : convBB x H = .ok v H') :
    VSnd E H v H' (fun ρ _ s => ∃ x', conc E ρ x = some x' ∧ s = Go.convert src dst x') := by
  unfold convBB at h
  cases x <;> try (simp only [reduceCtorEq] at h; done)
  rename_i b u o len cap sz
  rw [rowOf_ok] at h
  obtain ⟨⟨op, fz, mkd, el, c⟩, hr, h⟩ := h
  simp only [RV.when_ok, putO_eq, Bool.and_eq_true, Bool.not_eq_true', beq_iff, RV.ok.injEq] at h
  obtain ⟨⟨rfl, rfl⟩, rfl, rfl⟩ := h
  refine VSnd.put hr ?_
  rintro ρ w s ⟨x', hx', rfl⟩ _ hR
  obtain ⟨p, hp, hlen, rfl⟩ := conc_sl hx'
  obtain ⟨q, C, lo, hi, a1, a2, a3, a4, a5, a6, a7, a8⟩ := hR
  rw [hp] at a1
  obtain rfl := Option.some.inj a1
  simp only at a3 a5 a6 a7
  have hlt : p.blk < w.heap.size := (Array.getElem?_eq_some_iff.1 a3).1
  have us := fun w => run_und hs w
  have ud := fun w => run_und hd w
  have ue := fun w => run_und he w
  refine ⟨_, u, p, _, w.freeze ⟨p.blk, C.size, none⟩ 1, hp, hlt, ?_, freeze_put a3 (by decide), freeze_os _ _ _, freeze_tape _ _ _, freeze_out _ _ _, fun hw' => ?_, hx'⟩
  · have hsh : w.shape? p.blk = some (el, C.size) := by simp [World.shape?, a3]
    subst hsd
    simp only [Go.convert, Sem.run_bind, us, ue, Result.andThen_ok, beq_self_eq_true, markStringish, run_shape, hsh, run_freeze, Sem.run_pure]
    have e2 : e' = e := by rw [hs] at hd; cases hd; rfl
    subst e2
    simp only [ue, Result.andThen_ok, markStringish, Sem.run_bind, run_shape, hsh, run_freeze, Sem.run_pure]
  · refine ⟨p, C, _, _, hp, a2, hw', a4, a5, a6, ?_, fun h => ⟨(a8 h).1, (a8 h).2.1, fun hmk => by cases hmk⟩⟩
    have h8 := a8 rfl
    left
    show (frz lo hi C.size 1).1 = C.size
    unfold frz
    by_cases e1 : lo = hi
    · rw [if_pos (by simpa using e1)]
    · rw [if_neg (by simpa using e1)]
      show min lo C.size = C.size
      cases mkd with
      | true =>
        rcases a7 with q1 | q1
        · rw [q1]; exact Nat.min_self _
        · exact absurd q1 e1
      | false => exact absurd (h8.2.2 rfl rfl) e1

theorem conv_snd {src dst : TypeId} {x : K (T VV → VV)} {k : Cl} (hk : convK src dst x = .ok k) {sl : T VV} {H H' : VH} {v : VV} (h : k.f sl H = .ok v H') :
    VSnd E H v H' (fun ρ _ s => ∃ x', conc E ρ (x.f sl) = some x' ∧ s = Go.convert src dst x') := by
  unfold convK at hk
  rw [descV_ok] at hk
  obtain ⟨s, hs, hk⟩ := hk
  rw [descV_ok] at hk
  obtain ⟨d, hd, hk⟩ := hk
  have us := fun w => run_und hs w
  have ud := fun w => run_und hd w
  cases d <;> try (simp only [reduceCtorEq] at hk; done)
  case int kk =>
    simp only [R.ok.injEq] at hk
    subst hk
    simp only [asInt_ok, okI_ok] at h
    obtain ⟨j, n, hx, rfl, rfl⟩ := h
    refine VSnd.pure ?_
    rintro ρ w s' ⟨x', hx', rfl⟩ _
    rw [hx] at hx'
    rw [conc_int hx']
    exact ⟨_, by simp only [Go.convert, Sem.run_bind, us, ud, Result.andThen_ok, Conv.intToInt, Sem.run_pure, wrapF_eq], rfl⟩
  case string =>
    cases s <;> try (simp only [reduceCtorEq] at hk; done)
    case int kk =>
      simp only [R.ok.injEq] at hk
      subst hk
      simp only [asInt_ok, RV.ok.injEq] at h
      obtain ⟨j, n, hx, rfl, rfl⟩ := h
      refine VSnd.pure ?_
      rintro ρ w s' ⟨x', hx', rfl⟩ _
      rw [hx] at hx'
      rw [conc_int hx']
      refine ⟨.string (Utf8.encode n), by simp only [Go.convert, Sem.run_bind, us, ud, Result.andThen_ok, Conv.intToString, Sem.run_pure], ?_⟩
      simp only [conc]
      rw [if_pos ⟨trivial, encN_lt n⟩, encN_bytes]
    case string =>
      simp only [R.ok.injEq] at hk
      subst hk
      simp only [asStr_ok, RV.ok.injEq] at h
      obtain ⟨n, l, hx, rfl, rfl⟩ := h
      refine VSnd.pure ?_
      rintro ρ w s' ⟨x', hx', rfl⟩ _
      rw [hx] at hx'
      have hx2 := hx'
      obtain ⟨_, _, rfl⟩ := conc_str hx'
      exact ⟨_, by simp only [Go.convert, Sem.run_bind, us, ud, Result.andThen_ok, Sem.run_pure], hx2⟩
    case slice e =>
      rw [descV_ok] at hk
      obtain ⟨de, hde, hk⟩ := hk
      have ue := fun w => run_und hde w
      simp only [R.ok.injEq] at hk
      subst hk
      simp only at h
      unfold convSl at h
      cases hx : x.f sl <;> rw [hx] at h <;> try (simp only [reduceCtorEq] at h; done)
      case snil =>
        cases de <;> try (simp only [reduceCtorEq] at h; done)
        rename_i kk
        cases kk <;> simp only [reduceCtorEq, RV.ok.injEq] at h
        · obtain ⟨rfl, rfl⟩ := h
          refine VSnd.pure ?_
          rintro ρ w s' ⟨x', hx', rfl⟩ _
          simp only [conc, Option.some.injEq] at hx'
          subst hx'
          exact ⟨.string .empty, by simp only [Go.convert, Sem.run_bind, us, ud, ue, Result.andThen_ok, Conv.runesToString, Sem.run_pure], rfl⟩
        · obtain ⟨rfl, rfl⟩ := h
          refine VSnd.pure ?_
          rintro ρ w s' ⟨x', hx', rfl⟩ _
          simp only [conc, Option.some.injEq] at hx'
          subst hx'
          exact ⟨.string .empty, by simp only [Go.convert, Sem.run_bind, us, ud, ue, Result.andThen_ok, Conv.bytesToString, Sem.run_pure], rfl⟩
      case sl b u o len cap sz =>
        cases de <;> try (simp only [reduceCtorEq] at h; done)
        rename_i kk
        cases kk <;> try (simp only [reduceCtorEq] at h; done)
        · simp only [readCells_ok, RV.from_ok, natK_eq, RV.ok.injEq] at h
          obtain ⟨r, hr, hn, sb, hsb, rfl, rfl⟩ := h
          refine VSnd.touch hr (VSnd.pure ?_)
          rintro ρ w s' ⟨⟨x', hx', rfl⟩, hR⟩ _
          obtain ⟨p, hp, hl, rfl⟩ := conc_sl hx'
          obtain ⟨ys, hys, hload⟩ := load_cells E hR hp hn
          obtain ⟨ns, hns, rfl⟩ := runesBytes_ok hsb
          rw [hns] at hys
          obtain rfl := runes_conc hys
          refine ⟨_, by simp only [Go.convert, Sem.run_bind, us, ud, ue, Result.andThen_ok]; exact run_runesToString w _ _ _ ns hload, ?_⟩
          have hall : ∀ i ∈ (ns.map encN).flatten, i < 256 := fun i hi => by
            obtain ⟨l, hl, hi⟩ := List.mem_flatten.1 hi
            obtain ⟨n, _, rfl⟩ := List.mem_map.1 hl
            exact encN_lt n i hi
          simp only [conc]
          rw [if_pos ⟨lenN_eq _, hall⟩]
        · simp only [readCells_ok, RV.from_ok, RV.ok.injEq] at h
          obtain ⟨r, hr, hn, sb, hsb, rfl, rfl⟩ := h
          refine VSnd.touch hr (VSnd.pure ?_)
          rintro ρ w s' ⟨⟨x', hx', rfl⟩, hR⟩ _
          obtain ⟨p, hp, hl, rfl⟩ := conc_sl hx'
          obtain ⟨ys, hys, hload⟩ := load_cells E hR hp hn
          obtain ⟨hl1, hb⟩ := bytesOf_ok hsb
          have hlen : len = sb.length := by
            have := congrArg List.length hl1
            rw [List.length_take, Nat.min_eq_left hn, List.length_map] at this
            exact this
          rw [hl1] at hys
          obtain rfl := bytes_u8 hb hys
          have hload' : (loadCells ⟨p.blk, p.base + o, none⟩ len).run PP w = .ok ((sb.map fun b => ((UInt8.ofNat b).toNat : Int)).map (Value.int .u8)).toArray w := by
            rw [hload, List.map_map]; rfl
          refine ⟨_, by simp only [Go.convert, Sem.run_bind, us, ud, ue, Result.andThen_ok]; exact run_bytesToString w _ _ _ _ hload', ?_⟩
          rw [foldl_push _ _ hb]
          simp only [conc]
          rw [if_pos ⟨hlen, hb⟩]
          congr 2
  case slice e =>
    rw [descV_ok] at hk
    obtain ⟨de, hde, hk⟩ := hk
    have ue := fun w => run_und hde w
    have hk2 : (∃ e', s = .slice e' ∧ de = .int .u8 ∧ src = dst ∧ R.ok ⟨fun t H => convBB (x.f t) H⟩ = R.ok k) ∨ (R.ok ⟨fun t H => asStr (x.f t) fun n l => convStr e de n l H⟩ = R.ok k) := by
      cases s <;> try exact .inr hk
      rename_i e'
      left
      cases de <;> try (simp only [reduceCtorEq] at hk; done)
      rename_i kk
      cases kk <;> try (simp only [reduceCtorEq] at hk; done)
      rw [R.when_ok, beq_iff] at hk
      exact ⟨e', rfl, rfl, hk.1, hk.2⟩
    clear hk
    rcases hk2 with ⟨e', rfl, rfl, hsd, hk⟩ | hk
    · simp only [R.ok.injEq] at hk
      subst hk
      exact convBB_snd hs hd hde hsd h
    simp only [R.ok.injEq] at hk
    subst hk
    simp only [asStr_ok] at h
    obtain ⟨n, l, hx, h⟩ := h
    unfold convStr at h
    cases de <;> try (simp only [reduceCtorEq] at h; done)
    rename_i kk
    cases kk <;> try (simp only [reduceCtorEq] at h; done)
    · -- runes
      simp only [natK_eq, newRow_ok] at h
      obtain ⟨rfl, rfl⟩ := h
      refine VSnd.new fun ρ w s' hS _ hn => ?_
      obtain ⟨x', hx', rfl⟩ := hS
      rw [hx] at hx'
      obtain ⟨hnl, hb, rfl⟩ := conc_str hx'
      obtain ⟨ys, C, w', h1, h2, h3, h4, h5, h6, h7, h8⟩ := run_stringToRunes (E := E) e (toBA l) w (ρ := ρ)
      rw [toBA_size, ← hnl] at h1
      have hlen : (runesOf (toBA l) n 0).length = ys.length := (concs_length E h1).symm
      refine ⟨_, ⟨w.heap.size, 0, C.size⟩, .cells C e, w', by simp only [Go.convert, Sem.run_bind, us, ud, ue, Result.andThen_ok]; exact h2, h3, h4, h5, h6, rfl, ?_, ?_⟩
      · exact RowOk.fresh (lo := 0) (hi := 0) hn ⟨ys, h1, h8⟩ (by rw [hlen]; exact h7) (by rw [h3]; simp) rfl (fun h => by cases h)
      · have hcp : capOf ⟨w.heap.size, 0, C.size⟩ 0 none 1 = C.size := by
          show (C.size - 0) / 1 = C.size
          rw [Nat.sub_zero, Nat.div_one]
        rw [lenN_eq, hlen, conc_sl_mk (upd_same _ _ _ _) (by rw [hcp]; exact h7) rfl, hcp]
    · -- bytes
      simp only [newRow_ok, mapN_eq] at h
      obtain ⟨rfl, rfl⟩ := h
      refine VSnd.new fun ρ w s' hS _ hn => ?_
      obtain ⟨x', hx', rfl⟩ := hS
      rw [hx] at hx'
      obtain ⟨hnl, hb, rfl⟩ := conc_str hx'
      obtain ⟨C, w', h2, h3, h4, h5, h6, h7, h8⟩ := run_stringToBytes e (toBA l) w
      rw [toBA_size, ← hnl] at h2 h7
      refine ⟨_, ⟨w.heap.size, 0, C.size⟩, .cells C e (C.size, C.size + 1), w', by simp only [Go.convert, Sem.run_bind, us, ud, ue, Result.andThen_ok]; exact h2, h3, h4, h5, h6, rfl, ?_, ?_⟩
      · refine RowOk.fresh (lo := C.size) (hi := C.size + 1) hn ⟨_, bytes_conc hb, fun j y hy => ?_⟩ (by rw [List.length_map, ← hnl]; exact h7) (by rw [h3]; simp) rfl (fun h => by cases h)
        rw [List.getElem?_map, Option.map_eq_some_iff] at hy
        obtain ⟨b, hb2, rfl⟩ := hy
        exact h8 j (UInt8.ofNat b) (by rw [← Array.getElem?_toList, toBA_data, List.getElem?_map, hb2]; rfl)
      · have hcp : capOf ⟨w.heap.size, 0, C.size⟩ 0 none 1 = C.size := by
          show (C.size - 0) / 1 = C.size
          rw [Nat.sub_zero, Nat.div_one]
        rw [conc_sl_mk (upd_same _ _ _ _) (by rw [hcp]; exact h7) rfl, hcp]
  case unsafePointer =>
    cases s <;> try (simp only [reduceCtorEq] at hk; done)
    rename_i t
    rw [sizeV_ok] at hk
    obtain ⟨i, hi, hk⟩ := hk
    simp only [R.ok.injEq] at hk
    subst hk
    simp only at h
    unfold convP1 at h
    cases hx : x.f sl <;> rw [hx] at h <;> try (simp only [reduceCtorEq] at h; done)
    · simp only [RV.ok.injEq] at h
      obtain ⟨rfl, rfl⟩ := h
      refine VSnd.pure ?_
      rintro ρ w s' ⟨x', hx', rfl⟩ _
      simp only [conc, Option.some.injEq] at hx'
      subst hx'
      exact ⟨_, by simp only [Go.convert, Conv.unsafePointer, Sem.run_bind, us, ud, Result.andThen_ok, Sem.run_pure], rfl⟩
    · rename_i b u o
      simp only [rowOf_ok, RV.when_ok, blt_iff, nthK_ok, touchK_eq, RV.ok.injEq] at h
      obtain ⟨r, hr, h0, z, hz, rfl, rfl⟩ := h
      refine VSnd.touch hr (VSnd.pure ?_)
      rintro ρ w s' ⟨⟨x', hx', rfl⟩, hR⟩ _
      have hx2 := hx'
      obtain ⟨p, hp, rfl⟩ := conc_ptr hx'
      obtain ⟨n, hsh, hn, hcl, _⟩ := row_shape hR hp
      have hlt : o < r.c.length := (List.getElem?_eq_some_iff.1 hz).1
      refine ⟨_, ?_, hx2⟩
      have h1 : ¬ (i.size = 0) := by omega
      have h2 : ¬ (p.base + o ≥ n) := by omega
      simp only [Go.convert, Conv.unsafePointer, Sem.run_bind, us, ud, Result.andThen_ok, run_seenAt hsh, run_cellsIn hsh, run_size hi, Sem.run_pure, Sem.run_ite, h1, h2, decide_false, Bool.false_and, Bool.or_false, Bool.false_eq_true, if_false]
  case pointer t =>
    cases s <;> try (simp only [reduceCtorEq] at hk; done)
    rw [sizeV_ok] at hk
    obtain ⟨i, hi, hk⟩ := hk
    simp only [R.ok.injEq] at hk
    subst hk
    simp only at h
    unfold convP2 at h
    cases hx : x.f sl <;> rw [hx] at h <;> try (simp only [reduceCtorEq] at h; done)
    · simp only [RV.ok.injEq] at h
      obtain ⟨rfl, rfl⟩ := h
      refine VSnd.pure ?_
      rintro ρ w s' ⟨x', hx', rfl⟩ _
      simp only [conc, Option.some.injEq] at hx'
      subst hx'
      exact ⟨_, by simp only [Go.convert, Conv.unsafePointer, Sem.run_bind, us, ud, Result.andThen_ok, Sem.run_pure], rfl⟩
    · rename_i b u o
      simp only [rowOf_ok, RV.when_ok, Bool.and_eq_true, blt_iff, beq_iff, lenN_eq, Bool.not_eq_true', touchK_eq, RV.ok.injEq] at h
      obtain ⟨r, hr, ⟨⟨⟨⟨h0, rfl⟩, rfl⟩, hlen⟩, hop⟩, rfl, rfl⟩ := h
      refine VSnd.touch hr (VSnd.pure ?_)
      rintro ρ w s' ⟨⟨x', hx', rfl⟩, hR⟩ _
      have hx2 := hx'
      obtain ⟨p, hp, rfl⟩ := conc_ptr hx'
      obtain ⟨n, hsh, hn, hcl, hcc⟩ := row_shape hR hp
      obtain ⟨hb, hc⟩ := hcc hop
      refine ⟨_, ?_, hx2⟩
      have h1 : ¬ (i.size = 0) := by omega
      have hv : (variablesAt ⟨p.blk, p.base + 0, none⟩ r.el 1).run PP w = .ok true w := run_variablesAt hi h0 hsh (by
        rw [hb, Nat.add_zero, Nat.zero_mod, Nat.zero_div, ← hc, hlen, Nat.div_self h0]; simp)
      simp only [Go.convert, Conv.unsafePointer, Sem.run_bind, us, ud, Result.andThen_ok, run_seenAt hsh, run_size hi, hv, Sem.run_pure, Sem.run_ite, h1, decide_false, Bool.false_or, Bool.or_true, if_true]

end
end Go.Ev
