/- The plain operations: making, appending to and copying rows. -/
import Derived.Test.YtafajhplaldeaaaGreatEvN
import Derived.Deep.AppendSrc
set_option linter.unusedVariables false
set_option linter.unusedSimpArgs false
namespace Go.Ev
open Go
attribute [local irreducible] PP

section
variable {E : Nat → Value}

/-- a row grows -/
theorem VSnd.bump {H : VH} {v : VV} {b v1 : Nat} {o o' : VO} {S : Rho → World → Sem Value → Prop} (ho : H.m.get b = some o)
    (h : ∀ ρ w s, S ρ w s → Glob ρ → ObjOk E ρ w b o → ∃ v' u p q obj w', ρ b u = some p ∧ p.blk < w.heap.size ∧ ρ b v1 = none ∧ s.run PP w = .ok v' w' ∧
      ((q.blk = p.blk ∧ w'.heap = w.heap.setIfInBounds p.blk obj) ∨ (q.blk = w.heap.size ∧ w'.heap = w.heap.push obj)) ∧ w'.os = w.os ∧ w'.tape = w.tape ∧ w'.output = w.output ∧
      (w'.heap[q.blk]? = some obj → ObjOk E (upd ρ b v1 q) w' b o') ∧ conc E (upd ρ b v1 q) v = some v') : VSnd E H v (puth H b o') S := by
  intro hv
  have hb := hv.dom b o ho
  have m := Mono.puth hv o' hb
  refine ⟨m, fun ρ w s hs hp => ?_⟩
  obtain ⟨v', u, p, q, obj, w', h0, hlt, hn, h1, h2, h3, h4, h5, h7, h8⟩ := h ρ w s hs hp.gl (hp.ag b hb (m.ok.wf _ (tchW_in _ _)) o ho)
  rcases h2 with ⟨hq, h2⟩ | ⟨hq, h2⟩
  · exact ⟨v', _, w', h1, h8, Post.bumpPut E hp rfl rfl m.ok hb (tchW_in _ _) h0 hq hn h2 (h7 (by rw [h2, hq]; simp [hlt])) h3 h4 h5⟩
  · exact ⟨v', _, w', h1, h8, Post.bumpNew E hp rfl rfl m.ok hb (tchW_in _ _) hq hn h2 (h7 (by rw [h2, hq]; simp)) h3 h4 h5⟩

/-! ### sources -/
def SrcOk (E : Nat → Value) (ρ : Rho) (w : World) (sz : Nat) (x : VV) (l : List VV) (n : Nat) : Prop :=
  ∀ x', conc E ρ x = some x' → ∃ ys, concs E ρ l = some ys ∧ ys.length = n * sz ∧ ∀ w', w'.heap = w.heap → (Builtin.lenOf x').run PP w' = .ok n w' ∧ ∀ k, k ≤ n → (Builtin.firstCells sz k x').run PP w' = .ok (ys.take (k * sz)).toArray w'

theorem RowOk.heap {ρ : Rho} {w w' : World} {b v : Nat} {r : Row} (h : RowOk E ρ w b v r) (hw : w'.heap = w.heap) : RowOk E ρ w' b v r :=
  h.frame E (Rho.le_refl ρ) (fun _ _ h => h) (fun _ _ _ => by rw [hw])

/-- the first cells of a row's piece -/
theorem load_first {ρ : Rho} {w : World} {b u o n k : Nat} {r : Row} {p : Pl} {ys : List Value} (h : RowOk E ρ w b u r) (hp : ρ b u = some p) (hn : n ≤ (r.c.drop o).length) (hk : k ≤ n) (hy : concs E ρ ((r.c.drop o).take n) = some ys) :
    (loadCells ⟨p.blk, p.base + o, none⟩ k).run PP w = .ok (ys.take k).toArray w := by
  obtain ⟨xs, hxs, hr⟩ := load_cells E h hp (Nat.le_trans hk hn)
  rw [hr]
  have h1 := concs_take k hy
  rw [List.take_take, Nat.min_eq_left hk, hxs] at h1
  rw [Option.some.inj h1]

theorem bytes_conc {ρ : Rho} : ∀ {s : List Nat}, (∀ i ∈ s, i < 256) → concs E ρ (s.map byteV) = some (s.map fun b => .int .u8 (UInt8.ofNat b).toNat)
  | [], _ => rfl
  | b :: s, h => by
    have ih := bytes_conc (ρ := ρ) (s := s) (fun i hi => h i (by simp [hi]))
    simp only [List.map_cons, concs, byteV, conc, Option.bind_some, ih, Option.map_some, toNat_ofNat (h b (by simp))]
    rfl

theorem srcV_snd {sz : Nat} {x : VV} {H H' : VH} {k : List VV → Nat → VH → RV} {v : VV} {S : Rho → World → Sem Value → Prop} (h : srcV sz x H k = .ok v H')
    (hk : ∀ l n H1, k l n H1 = .ok v H' → VSnd E H1 v H' (fun ρ w s => S ρ w s ∧ SrcOk E ρ w sz x l n)) : VSnd E H v H' S := by
  unfold srcV at h
  cases x <;> try (simp only [reduceCtorEq] at h; done)
  case snil =>
    refine (hk _ _ _ h).weaken fun ρ w s hs => ⟨hs, fun x' hx => ?_⟩
    simp only [conc, Option.some.injEq] at hx
    subst hx
    exact ⟨[], rfl, by simp, fun w' _ => ⟨rfl, fun k hk => by simp [Builtin.firstCells]⟩⟩
  case str n s =>
    rw [RV.when_ok, beq_iff] at h
    obtain ⟨rfl, h⟩ := h
    rw [mapN_eq] at h
    refine (hk _ _ _ h).weaken fun ρ w s' hs => ⟨hs, fun x' hx => ?_⟩
    obtain ⟨hn, hb, rfl⟩ := conc_str hx
    refine ⟨_, bytes_conc hb, by simp [hn], fun w' _ => ⟨?_, fun k hk => ?_⟩⟩
    · simp [Builtin.lenOf, toBA_size, hn]
    · simp only [Builtin.firstCells, toBA_extract, Sem.run_pure]
      congr 1
      apply Array.ext'
      rw [Array.toList_map, toBA_data]
      simp [Function.comp_def]
  case sl b u o len cap sz' =>
    rw [readCells_ok] at h
    obtain ⟨r, hr, hn, h⟩ := h
    refine VSnd.touch hr ((hk _ _ _ h).weaken ?_)
    rintro ρ w s ⟨hs, hR⟩
    refine ⟨hs, fun x' hx => ?_⟩
    obtain ⟨p, hp, hl, rfl⟩ := conc_sl hx
    obtain ⟨ys, hys, _⟩ := load_cells E hR hp hn
    refine ⟨ys, hys, by rw [concs_length E hys, List.length_take]; exact Nat.min_eq_left hn, fun w' hw => ⟨rfl, fun k hk => ?_⟩⟩
    exact load_first (hR.heap hw) hp hn (Nat.mul_le_mul_right _ hk) hys

/-! ### append -/
def NoZeros (ts : Array TypeId) : Prop := ts[1]? = none ∨ ∃ xt d, ts[1]? = some xt ∧ PP.underlying xt = some d ∧ ∀ k, d ≠ .int k

theorem not_int {d : TypeDesc} (h : ∀ k, d ≠ .int k) : (d matches .int _) = false := by
  cases d <;> first | rfl | exact absurd rfl (h _)

theorem run_append_room' {ts : Array TypeId} {t ty el : TypeId} {i : TypeInfo} (h0 : ts[0]? = some t) (hz : NoZeros ts) (hd : PP.underlying t = some (.slice el)) (hi : PP.info? el = some i) {b off sLen sCap n : Nat} {x : Value} {news : List Value} {w w' : World}
    (hl : (Builtin.lenOf x).run PP w = .ok n w) (hf : (Builtin.firstCells i.size n x).run PP w = .ok news.toArray w) (hroom : sLen + n ≤ sCap) (hst : (storeCells ⟨b, off + sLen * i.size, none⟩ news).run PP w = .ok () w') :
    (Builtin.append_ ts ty #[.slice (some ⟨b, off, none⟩) sLen sCap, x]).run PP w = .ok (.slice (some ⟨b, off, none⟩) (sLen + n) sCap) w' := by
  rcases hz with hz | ⟨xt, d, hz, hxt, hnd⟩
  · simp [Builtin.append_, h0, hz, run_und hd, run_size hi, hl, hroom, hf, add_none, hst]
  · simp [Builtin.append_, h0, hz, run_und hd, run_und hxt, not_int hnd, run_size hi, hl, hroom, hf, add_none, hst]

theorem run_append_nil' {ts : Array TypeId} {t ty el : TypeId} {i : TypeInfo} (h0 : ts[0]? = some t) (hz : NoZeros ts) (hd : PP.underlying t = some (.slice el)) (hi : PP.info? el = some i) {sLen sCap n : Nat} {x : Value} {news : List Value} {w : World}
    (hl : (Builtin.lenOf x).run PP w = .ok n w) (hf : (Builtin.firstCells i.size n x).run PP w = .ok news.toArray w) (hroom : sLen + n ≤ sCap) :
    (Builtin.append_ ts ty #[.slice none sLen sCap, x]).run PP w = .ok (.slice none (sLen + n) sCap) w := by
  rcases hz with hz | ⟨xt, d, hz, hxt, hnd⟩
  · simp [Builtin.append_, h0, hz, run_und hd, run_size hi, hl, hroom, hf]
  · simp [Builtin.append_, h0, hz, run_und hd, run_und hxt, not_int hnd, run_size hi, hl, hroom, hf]

/-- the world behind an 'append' that moves -/
def grew (w : World) (cap : Nat) (el : TypeId) (olds news : List Value) (z : Value) (need : Nat) : World := w.drew.alloc (.cells ((olds ++ news).toArray ++ Builtin.zeroCells z.cells (cap - need)) el)

theorem run_append_grow' {ts : Array TypeId} {t ty el : TypeId} {i : TypeInfo} {z : Value} (h0 : ts[0]? = some t) (hz : NoZeros ts) (hd : PP.underlying t = some (.slice el)) (hi : PP.info? el = some i) (hzero : i.zero = some z) {base : Option Addr} {sLen sCap n : Nat} {x : Value} {olds news : List Value} {w : World}
    (hl : (Builtin.lenOf x).run PP w = .ok n w) (hf : (Builtin.firstCells i.size n x).run PP w.drew = .ok news.toArray w.drew) (hold : (Builtin.firstCells i.size sLen (.slice base sLen sCap)).run PP w.drew = .ok olds.toArray w.drew)
    (hg : sCap < sLen + n) (hneed : sLen + n ≤ 1000000) (hb : i.bytes ≤ 4096) : ∃ cap, sLen + n ≤ cap ∧
    (Builtin.append_ ts ty #[.slice base sLen sCap, x]).run PP w = .ok (.slice (some ⟨w.heap.size, 0, none⟩) (sLen + n) cap) (grew w cap el olds news z (sLen + n)) := by
  have hn : ¬ (sLen + n ≤ sCap) := by omega
  have h63' : ¬ (9223372036854775807 < ((sLen : Int) + (n : Int))) := by omega
  have hgb : ∀ (r c : Nat), c < 1000000 → Builtin.growBy (sLen + n) r c ≤ 2000000 := by
    intro r
    induction r with
    | zero => intro c hc; unfold Builtin.growBy; omega
    | succ r ih =>
      intro c hc
      unfold Builtin.growBy
      split
      · omega
      · rename_i hc2
        rcases Nat.lt_or_ge (c + (c + 768) / 4) 1000000 with h | h
        · exact ih _ h
        · cases r with
          | zero => unfold Builtin.growBy; omega
          | succ r => unfold Builtin.growBy; rw [if_pos (by omega)]; omega
  have hnext : Builtin.nextslicecap (sLen + n) sCap ≤ 2000000 := by
    unfold Builtin.nextslicecap
    split
    · omega
    · split
      · omega
      · exact hgb 4 sCap (by omega)
  have h48' : ¬ (281474976710656 < Builtin.nextslicecap (sLen + n) sCap * i.bytes) := by
    have : Builtin.nextslicecap (sLen + n) sCap * i.bytes ≤ 2000000 * 4096 := Nat.mul_le_mul hnext (by omega)
    omega
  refine ⟨grownCap w (sLen + n) sCap el, ?_, ?_⟩
  · show sLen + n ≤ sLen + n + _ % _
    omega
  · rcases hz with hz | ⟨xt, d, hz, hxt, hnd⟩
    · simp [Builtin.append_, h0, hz, run_und hd, run_size hi, run_info hi, run_zero hi hzero, hl, hn, h63', h48', Question.forced, hf, hold, Go.newRow, grownCap, grew]
      congr 2
      apply Array.ext'
      simp [List.append_assoc]
    · simp [Builtin.append_, h0, hz, run_und hd, run_und hxt, not_int hnd, run_size hi, run_info hi, run_zero hi hzero, hl, hn, h63', h48', Question.forced, hf, hold, Go.newRow, grownCap, grew]
      congr 2
      apply Array.ext'
      simp [List.append_assoc]

theorem zeroCells_size (z : Array Value) (n : Nat) : (Builtin.zeroCells z n).size = n * z.size := by simp [Builtin.zeroCells]

theorem grew_heap (w : World) (cap : Nat) (el : TypeId) (olds news : List Value) (z : Value) (need : Nat) :
    (grew w cap el olds news z need).heap = w.heap.push (.cells ((olds ++ news).toArray ++ Builtin.zeroCells z.cells (cap - need)) el) := rfl

theorem grew_size {w : World} {cap : Nat} {el : TypeId} {olds news : List Value} {z : Value} {need sz : Nat} (hz : z.cells.size = sz) (hl : (olds ++ news).length = need * sz) (hc : need ≤ cap) :
    ((olds ++ news).toArray ++ Builtin.zeroCells z.cells (cap - need)).size = cap * sz := by
  rw [Array.size_append, zeroCells_size, List.size_toArray, hl, hz, ← Nat.add_mul]
  congr 1; omega

theorem grew_get {cap : Nat} {olds news : List Value} {z : Value} {need j : Nat} {y : Value} (h : (olds ++ news)[j]? = some y) : ((olds ++ news).toArray ++ Builtin.zeroCells z.cells (cap - need))[j]? = some y := by
  have hj : j < (olds ++ news).length := (List.getElem?_eq_some_iff.1 h).1
  rw [Array.getElem?_append, if_pos (by simpa using hj), List.getElem?_toArray, h]

theorem appFresh_snd {el : TypeId} {sz need : Nat} {old src : List VV} {H H' : VH} {v : VV} {S : Rho → World → Sem Value → Prop} (h0 : 0 < sz) (h : appFresh el sz need old src H = .ok v H')
    (hs : ∀ ρ w s, S ρ w s → need ≤ 1000000 → ∃ olds news z cap, concs E ρ (old ++ src) = some (olds ++ news) ∧ (olds ++ news).length = need * sz ∧ z.cells.size = sz ∧ need ≤ cap ∧
      s.run PP w = .ok (.slice (some ⟨w.heap.size, 0, none⟩) need cap) (grew w cap el olds news z need)) : VSnd E H v H' S := by
  unfold appFresh at h
  rw [RV.when_ok, ble_iff, newRow_ok] at h
  obtain ⟨hle, rfl, rfl⟩ := h
  refine VSnd.new fun ρ w s hS _ hn => ?_
  obtain ⟨olds, news, z, cap, hc, hl, hz, hcap, hr⟩ := hs ρ w s hS hle
  have hsize := grew_size (w := w) (el := el) (cap := cap) hz hl hcap
  refine ⟨_, ⟨w.heap.size, 0, cap * sz⟩, _, _, hr, rfl, rfl, rfl, rfl, rfl, ?_, ?_⟩
  · have := RowOk.fresh (E := E) (ρ := ρ) (w := w) (w' := grew w cap el olds news z need) (b := H.nx) (op := true) (mkd := false) (el := el) (c := appN old src) (lo := 0) (hi := 0) hn
      ⟨_, by rw [appN_eq]; exact hc, fun j y hy => grew_get hy⟩ (by rw [hsize, appN_eq, ← concs_length E hc, hl]; exact Nat.mul_le_mul_right _ hcap) (by rw [grew_heap]; simp) rfl (fun h => by cases h)
    rw [hsize] at this
    exact this
  · have hcp : capOf ⟨w.heap.size, 0, cap * sz⟩ 0 none sz = cap := by
      show (cap * sz - 0) / sz = cap
      rw [Nat.sub_zero, Nat.mul_div_cancel _ h0]
    rw [conc_sl_mk (upd_same _ _ _ _) (by rw [hcp]; exact hcap) rfl, hcp]

/-- what 'append' is given: a row's piece, and n elements -/
def AppS (E : Nat → Value) (ts : Array TypeId) (ty : TypeId) (sz : Nat) (src : List VV) (n b u o len : Nat) (cap : Option Nat) (ρ : Rho) (w : World) (s : Sem Value) : Prop :=
  ∃ x' news p, concs E ρ src = some news ∧ news.length = n * sz ∧ (∀ w', w'.heap = w.heap → (Builtin.lenOf x').run PP w' = .ok n w' ∧ (Builtin.firstCells sz n x').run PP w' = .ok news.toArray w') ∧
    ρ b u = some p ∧ len ≤ capOf p o cap sz ∧ room p o cap sz = true ∧ s = Builtin.append_ ts ty #[.slice (some ⟨p.blk, p.base + o, none⟩) len (capOf p o cap sz), x']

theorem appRoom_snd (hE : Plain E) {ts : Array TypeId} {t ty el : TypeId} {i : TypeInfo} (h0 : ts[0]? = some t) (hz : NoZeros ts) (hd : PP.underlying t = some (.slice el)) (hi : PP.info? el = some i) {src : List VV} {n b u o len : Nat} {cap : Option Nat} {H H' : VH} {v : VV} {S : Rho → World → Sem Value → Prop}
    (h : writeCells b u (Nat.add o (Nat.mul len i.size)) src H (fun H => .ok (.sl b u o (Nat.add len n) cap i.size) H) = .ok v H') (hs : ∀ ρ w s, S ρ w s → AppS E ts ty i.size src n b u o len cap ρ w s)
    (hroom : ∀ ρ w s p r, S ρ w s → ρ b u = some p → H.m.get b = some (.cells u r) → RowOk E ρ w b u r → len + n ≤ capOf p o cap i.size) : VSnd E H v H' S := by
  rw [writeCells_ok] at h
  obtain ⟨r, hr, hf, h1, hn, h⟩ := h
  simp only [RV.ok.injEq] at h
  obtain ⟨rfl, rfl⟩ := h
  refine VSnd.put hr ?_
  rintro ρ w s hS _ hR
  obtain ⟨x', news, p, hc, hl, hx, hp, hlen, hrm, rfl⟩ := hs ρ w s hS
  obtain ⟨obj, hrun, hlt, hok⟩ := store_cells hE hR hp hf h1 hn hc
  have hro := hroom ρ w _ p r hS hp hr hR
  obtain ⟨e1, e2⟩ := hx w rfl
  refine ⟨_, u, p, obj, w.putObj p.blk obj, hp, hlt, run_append_room' h0 hz hd hi e1 e2 hro ?_, rfl, rfl, rfl, rfl, fun hw' => hok _ hw', conc_sl_mk hp hro hrm⟩
  rw [Nat.add_assoc]
  exact hrun

theorem appGrow_snd (hE : Plain E) {ts : Array TypeId} {t ty el : TypeId} {i : TypeInfo} {z : Value} (h0 : ts[0]? = some t) (hz : NoZeros ts) (hd : PP.underlying t = some (.slice el)) (hi : PP.info? el = some i) (hzero : i.zero = some z) (hzs : z.cells.size = i.size) (hsz : 0 < i.size) (hby : i.bytes ≤ 4096)
    {src : List VV} {n b u o len : Nat} (hn0 : 0 < n) {H H' : VH} {v : VV} {S : Rho → World → Sem Value → Prop}
    (h : appGrow b u o len i.size (Nat.add len n) el src H = .ok v H') (hs : ∀ ρ w s, S ρ w s → AppS E ts ty i.size src n b u o len none ρ w s) : VSnd E H v H' S := by
  unfold appGrow at h
  rw [rowOf_ok] at h
  obtain ⟨⟨op, fz, mkd, el', c⟩, hr, h⟩ := h
  simp only [RV.when_ok, takeK_ok, dropN_eq, natK_eq, putO_eq, Bool.and_eq_true, ble_iff, beq_iff, allOne_eq, RV.ok.injEq] at h
  obtain ⟨⟨⟨⟨⟨hop, hfz⟩, h1⟩, rfl⟩, hneed⟩, htake, rfl, rfl⟩ := h
  subst hop
  have hneed' : len + n ≤ 1000000 := hneed
  have hfz' : fz ≤ o + len * i.size := hfz
  have htake' : len * i.size ≤ (c.drop o).length := htake
  refine VSnd.bump (v1 := u.succ) hr ?_
  rintro ρ w s hS _ hR
  obtain ⟨x', news, p, hc, hl, hx, hp, hlen, hrm, rfl⟩ := hs ρ w s hS
  have hR0 : RowOk E ρ w b u ⟨true, fz, mkd, el', c⟩ := hR
  obtain ⟨p', C, lo, hi', a1, a2, a3, a4, a5, a6, a7, a8⟩ := hR
  rw [hp] at a1
  obtain rfl := Option.some.inj a1
  simp only at a3 a5 a6 a7
  have hlt : p.blk < w.heap.size := (Array.getElem?_eq_some_iff.1 a3).1
  obtain ⟨olds, holds, hload⟩ := load_cells E hR0 hp htake'
  have holdl : olds.length = len * i.size := by rw [concs_length E holds, List.length_take]; exact Nat.min_eq_left htake'
  have hcat : concs E ρ ((c.drop o).take (len * i.size) ++ src) = some (olds ++ news) := concs_append E holds hc
  have hcatl : (olds ++ news).length = (len + n) * i.size := by rw [List.length_append, holdl, hl, Nat.add_mul]
  have hcapeq : capOf p o none i.size = (p.cap - o) / i.size := rfl
  by_cases hroom : len + n ≤ (p.cap - o) / i.size
  · -- there is room
    have hro : (len + n) * i.size ≤ p.cap - o := (Nat.le_div_iff_mul_le hsz).1 hroom
    obtain ⟨e1, e2⟩ := hx w rfl
    have hone : ∀ y ∈ news, y.oneCell' = true := fun y hy' => by
      obtain ⟨j, hj, rfl⟩ := List.getElem_of_mem hy'
      have hjx : j < src.length := by rw [← concs_length E hc]; exact hj
      obtain ⟨zz, hzz, hz2⟩ := concs_get E hc j _ (List.getElem?_eq_getElem hjx)
      rw [List.getElem?_eq_getElem hj] at hz2; cases hz2
      exact conc_one hE hzz (h1 _ (List.getElem_mem hjx))
    have hmul : (len + n) * i.size = len * i.size + n * i.size := Nat.add_mul _ _ _
    have hsize : (p.base + o + len * i.size) + news.length ≤ C.size := by
      have hpos : 0 < (len + n) * i.size := Nat.mul_pos (by omega) hsz
      omega
    have hfr : ∀ j, p.base + o + len * i.size + 0 ≤ j → j < p.base + o + len * i.size + 0 + news.length → ¬ (lo ≤ j ∧ j < hi') := fun j h2 h3 => by
      cases hm : mkd with
      | true => rw [hm] at a7; simp only at a7; omega
      | false => rw [hm] at a7; simp only at a7; omega
    have hst := run_store_row p.blk (p.base + o + len * i.size) el' (lo, hi') news 0 C w a3 (by omega) hone hfr
    rw [Nat.add_zero] at hst
    refine ⟨_, u, p, ⟨p.blk, p.base + o, p.cap - o⟩, .cells (wrArr C (p.base + o + len * i.size) news) el' (lo, hi'), _, hp, hlt, a2 _ (Nat.lt_succ_self u), run_append_room' h0 hz hd hi e1 e2 (by rw [hcapeq]; exact hroom) hst, .inl ⟨rfl, rfl⟩, rfl, rfl, rfl, fun hw' => ?_, ?_⟩
    · refine ⟨_, _, lo, hi', upd_same _ _ _ _, fun v' hv => ?_, hw', ?_, ?_, fun j x hx => ?_, ?_, fun ho => by cases ho⟩
      · unfold upd; rw [if_neg (by omega)]; exact a2 v' (by omega)
      · rw [wrArr_size hsize]
        show p.base + o + (p.cap - o) = C.size
        omega
      · show (appN ((c.drop o).take (len * i.size)) src).length ≤ p.cap - o
        rw [appN_eq, ← concs_length E hcat, hcatl]; exact hro
      · simp only at hx ⊢
        rw [appN_eq] at hx
        obtain ⟨y, hy, hy2⟩ := concs_get E hcat j x hx
        refine ⟨y, conc_mono E (upd_le (a2 _ (Nat.lt_succ_self u))) _ _ hy, ?_⟩
        rw [wrArr_get hsize, ← hy2]
        have hjl : j < (olds ++ news).length := (List.getElem?_eq_some_iff.1 hy2).1
        rw [hcatl] at hjl
        by_cases e1 : j < len * i.size
        · rw [if_pos (by omega), List.getElem?_append_left (by omega)]
          replace hx : ((c.drop o).take (len * i.size) ++ src)[j]? = some x := hx
          rw [List.getElem?_append_left (by rw [List.length_take, Nat.min_eq_left htake']; exact e1), List.getElem?_take, if_pos e1, List.getElem?_drop] at hx
          obtain ⟨y', hy', hC⟩ := a6 _ _ hx
          rw [hy] at hy'
          obtain rfl := Option.some.inj hy'
          rw [List.getElem?_append_left (by omega)] at hy2
          rw [hy2, ← hC, Nat.add_assoc]
        · rw [if_neg (by omega), if_pos (by omega), List.getElem?_append_right (by omega)]
          congr 1; omega
      · have hfs : ∀ a b : Nat, a.sub b = a - b := fun _ _ => rfl
        cases hm : mkd with
        | true => rw [hm] at a7; simp only at a7 ⊢; rw [wrArr_size hsize]; exact a7
        | false =>
          rw [hm] at a7; simp only [hfs] at a7 ⊢
          rcases a7 with e | e
          · exact .inl e
          · exact .inr (by omega)
    · have : capOf ⟨p.blk, p.base + o, p.cap - o⟩ 0 none i.size = (p.cap - o) / i.size := by
        show (p.cap - o - 0) / i.size = _
        rw [Nat.sub_zero]
      rw [conc_sl_mk (upd_same _ _ _ _) (by rw [this]; exact hroom) rfl, this]
      rfl
  · -- there is none
    obtain ⟨e1, e2⟩ := hx w rfl
    obtain ⟨e3, e4⟩ := hx w.drew rfl
    have hold : (Builtin.firstCells i.size len (.slice (some ⟨p.blk, p.base + o, none⟩) len ((p.cap - o) / i.size))).run PP w.drew = .ok olds.toArray w.drew := by
      have := load_first (hR0.heap (w' := w.drew) rfl) hp htake' (Nat.le_refl _) holds
      rw [List.take_of_length_le (Nat.le_of_eq holdl)] at this
      exact this
    obtain ⟨cap, hcap, hrun⟩ := run_append_grow' (base := some ⟨p.blk, p.base + o, none⟩) (sLen := len) (sCap := (p.cap - o) / i.size) (olds := olds) (news := news) (ty := ty) h0 hz hd hi hzero e1 e4 hold (by omega) hneed' hby
    have hsize := grew_size (w := w) (el := el') (cap := cap) hzs hcatl hcap
    refine ⟨_, u, p, ⟨w.heap.size, 0, cap * i.size⟩, .cells ((olds ++ news).toArray ++ Builtin.zeroCells z.cells (cap - (len + n))) el' (0, 0), _, hp, hlt, a2 _ (Nat.lt_succ_self u), hrun, .inr ⟨rfl, rfl⟩, rfl, rfl, rfl, fun hw' => ?_, ?_⟩
    · refine ⟨_, _, 0, 0, upd_same _ _ _ _, fun v' hv => ?_, hw', ?_, ?_, fun j x hx => ?_, ?_, fun ho => by cases ho⟩
      · unfold upd; rw [if_neg (by omega)]; exact a2 v' (by omega)
      · rw [hsize, Nat.zero_add]
      · show (appN ((c.drop o).take (len * i.size)) src).length ≤ cap * i.size
        rw [appN_eq, ← concs_length E hcat, hcatl]; exact Nat.mul_le_mul_right _ hcap
      · simp only at hx ⊢
        rw [appN_eq] at hx
        obtain ⟨y, hy, hy2⟩ := concs_get E hcat j x hx
        refine ⟨y, conc_mono E (upd_le (a2 _ (Nat.lt_succ_self u))) _ _ hy, ?_⟩
        rw [Nat.zero_add]
        exact grew_get hy2
      · cases mkd with
        | true => exact .inr rfl
        | false => exact .inl rfl
    · have : capOf ⟨w.heap.size, 0, cap * i.size⟩ 0 none i.size = cap := by
        show (cap * i.size - 0) / i.size = _
        rw [Nat.sub_zero, Nat.mul_div_cancel _ hsz]
      rw [conc_sl_mk (upd_same _ _ _ _) (by rw [this]; exact hcap) rfl, this]
      rfl

end
end Go.Ev
