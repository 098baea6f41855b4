/- Functions without a text: those of package bytealg. -/
import Derived.Test.YtafajhplaldeaaaGreatEvE1
import Derived.Lib.MakeNoZero
import Derived.Lib.Bytealg
set_option linter.unusedVariables false
set_option linter.unusedSimpArgs false
namespace Go.Ev
open Go
attribute [local irreducible] PP

section
variable {E : Nat → Value}

theorem run_loadBytes' {w : World} : ∀ (l : List Nat) (a : Addr) (acc : ByteArray), (∀ (j : Nat) b, l[j]? = some b → w.cell? (a.add j) = some (.int .u8 (UInt8.ofNat b).toNat)) →
    (Extern.Bytes.loadBytes a l.length acc).run PP w = .ok ⟨acc.data ++ (l.map UInt8.ofNat).toArray⟩ w
  | [], a, acc, _ => by simp [Extern.Bytes.loadBytes]
  | x :: l, a, acc, h => by
    have h0 : w.cell? a = some (.int .u8 (UInt8.ofNat x).toNat) := by
      have := h 0 x rfl
      simpa [Addr.add] using this
    have ih := run_loadBytes' l (a.add 1) (acc.push (UInt8.ofNat x)) (fun j y hy => by
      have := h (j + 1) y (by simpa using hy)
      have e : (a.add 1).add j = a.add (j + 1) := by
        unfold Addr.add
        by_cases hj : j = 0
        · subst hj; simp
        · simp [hj]; omega
      rw [e]; exact this)
    have e8 : (((UInt8.ofNat x).toNat : Int)).toNat.toUInt8 = UInt8.ofNat x := by rw [Int.toNat_natCast]; exact UInt8.ofNat_toNat
    simp only [List.length_cons, Extern.Bytes.loadBytes, Sem.run_bind, run_load, h0, Result.andThen, e8]
    rw [ih]
    congr 1
    apply ByteArray.ext
    simp [ByteArray.push]

/-- a text, or the bytes of a slice -/
theorem VSnd.bytes {x : VV} {H H' : VH} {v : VV} {k : List Nat → VH → RV} {S : Rho → World → Sem Value → Prop} (h : bytesArg x H k = .ok v H')
    (g : ∀ l H1, k l H1 = .ok v H' → VSnd E H1 v H' (fun ρ w s => S ρ w s ∧ (∀ x', conc E ρ x = some x' → (Extern.Bytes.bytesOf x').run PP w = .ok (toBA l) w ∧ ∀ i ∈ l, i < 256))) : VSnd E H v H' S := by
  unfold bytesArg at h
  cases x <;> try (simp only [reduceCtorEq] at h; done)
  case str n l =>
    refine (g _ _ h).weaken fun ρ w s hs => ⟨hs, fun x' hx => ?_⟩
    obtain ⟨hn, hb, rfl⟩ := conc_str hx
    exact ⟨rfl, hb⟩
  case snil =>
    refine (g _ _ h).weaken fun ρ w s hs => ⟨hs, fun x' hx => ?_⟩
    simp only [conc, Option.some.injEq] at hx
    subst hx
    exact ⟨rfl, by simp⟩
  case sl b u o len cap sz =>
    simp only [readCells_ok, RV.from_ok] at h
    obtain ⟨r, hr, hn, sb, hsb, h⟩ := h
    refine VSnd.touch hr ((g _ _ h).weaken ?_)
    rintro ρ w s ⟨hs, hR⟩
    refine ⟨hs, fun x' hx => ?_⟩
    obtain ⟨p, hp, hl, rfl⟩ := conc_sl hx
    obtain ⟨hl1, hb⟩ := bytesOf_ok hsb
    refine ⟨?_, hb⟩
    have hlen : len = sb.length := by
      have := congrArg List.length hl1
      rw [List.length_take, Nat.min_eq_left hn, List.length_map] at this
      exact this
    have := run_loadBytes' (w := w) sb ⟨p.blk, p.base + o, none⟩ .empty fun j b hj => by
      have hjl := (List.getElem?_eq_some_iff.1 hj).1
      have hc : r.c[o + j]? = some (byteV b) := by
        have := congrArg (·[j]?) hl1
        simp only [List.getElem?_map, hj, Option.map_some] at this
        rw [List.getElem?_take, if_pos (by omega), List.getElem?_drop] at this
        exact this
      obtain ⟨y, hy, hcell⟩ := cell_at hR hp hc
      have hb' := hb b (List.mem_of_getElem? hj)
      have : y = .int .u8 (UInt8.ofNat b).toNat := by
        simp only [byteV, conc, Option.some.injEq] at hy
        rw [← hy]
        congr 1
        simp only [UInt8.toNat_ofNat']
        rw [Nat.mod_eq_of_lt hb']; rfl
      rw [add_none, Nat.add_assoc, hcell, this]
    rw [← hlen] at this
    have e : (⟨(ByteArray.empty).data ++ (sb.map UInt8.ofNat).toArray⟩ : ByteArray) = toBA sb := by
      unfold toBA; congr 1; exact Array.empty_append
    rw [e] at this
    exact this

theorem findByte_eq {c : Nat} (hc : c < 256) : ∀ {l : List Nat}, (∀ i ∈ l, i < 256) → ∀ j, findByte c l j = if Lib.indexByte (l.map UInt8.ofNat) (UInt8.ofNat c) == -1 then -1 else (j : Int) + Lib.indexByte (l.map UInt8.ofNat) (UInt8.ofNat c)
  | [], _, j => rfl
  | b :: l, h, j => by
    have ih := findByte_eq hc (l := l) (fun i hi => h i (by simp [hi])) (j + 1)
    have hb := h b (by simp)
    have e : (UInt8.ofNat b == UInt8.ofNat c) = Nat.beq b c := by
      rw [Bool.eq_iff_iff, beq_iff_eq, beq_iff, ← UInt8.toNat_inj, UInt8.toNat_ofNat', UInt8.toNat_ofNat', Nat.mod_eq_of_lt hb, Nat.mod_eq_of_lt hc]
    have hge := Lib.indexByte_ge (l.map UInt8.ofNat) (UInt8.ofNat c)
    unfold findByte
    rw [List.map_cons, Lib.indexByte, e]
    cases Nat.beq b c with
    | true => simp
    | false =>
      simp only [Bool.false_eq_true, if_false]
      rw [show findByte c l (Nat.succ j) = findByte c l (j + 1) from rfl, ih]
      split
      · simp
      · rename_i hne
        rw [beq_iff_eq] at hne
        rw [if_neg (by rw [beq_iff_eq]; omega)]
        omega

theorem countByte_eq {c : Nat} (hc : c < 256) : ∀ {l : List Nat}, (∀ i ∈ l, i < 256) → countByte c l = Lib.countByte (l.map UInt8.ofNat) (UInt8.ofNat c)
  | [], _ => rfl
  | b :: l, h => by
    have ih := countByte_eq hc (l := l) (fun i hi => h i (by simp [hi]))
    have hb := h b (by simp)
    have e : (UInt8.ofNat b == UInt8.ofNat c) = Nat.beq b c := by
      rw [Bool.eq_iff_iff, beq_iff_eq, beq_iff, ← UInt8.toNat_inj, UInt8.toNat_ofNat', UInt8.toNat_ofNat', Nat.mod_eq_of_lt hb, Nat.mod_eq_of_lt hc]
    unfold countByte
    rw [List.map_cons, Lib.countByte, List.count_cons, e]
    unfold Lib.countByte at ih
    cases Nat.beq b c <;> simp [ih]

theorem byte_mod (c : Nat) : ((Int.ofNat c).toNat.toUInt8) = UInt8.ofNat (Nat.mod c 256) := by
  apply UInt8.toNat_inj.1
  show (UInt8.ofNat c).toNat = (UInt8.ofNat (c % 256)).toNat
  simp

theorem ext_indexByte {f : FuncId} (hx : IsExt f Extern.BytealgIndexByte.indexByte) : ExtOk E f .indexByte := by
  intro args H v H' h
  unfold extV at h
  match args, h with
  | [s, .int .u8 (.ofNat c)], h =>
    refine hx.snd (VSnd.bytes h fun l H1 h => ?_)
    rw [okI_ok] at h
    obtain ⟨rfl, rfl⟩ := h
    refine VSnd.pure ?_
    rintro ρ w s' ⟨⟨args', ha, rfl⟩, hs⟩ _
    obtain ⟨s1, c1, hs1, hc1, rfl⟩ := concs_two ha
    simp only [conc, Option.some.injEq] at hc1
    subst hc1
    obtain ⟨hr, hb⟩ := hs s1 hs1
    have hm : Nat.mod c 256 < 256 := Nat.mod_lt _ (by decide)
    refine ⟨.int .i64 (findByte (Nat.mod c 256) l 0), ?_, rfl⟩
    have hS := Lib.run_indexByteString (P := PP) (toBA l) (Int.ofNat c) w
    rw [byte_mod] at hS
    have e : Lib.indexByte (toBA l).data.toList (UInt8.ofNat (Nat.mod c 256)) = findByte (Nat.mod c 256) l 0 := by
      rw [findByte_eq hm hb, toBA_data]
      split
      · rename_i h; rw [beq_iff_eq] at h; exact h
      · simp
    rw [e] at hS
    rw [← hS]
    show Sem.run PP (do
      let b ← Extern.Bytes.bytesOf s1
      let c ← Extern.Bytes.asByte (.int .u8 (Int.ofNat c))
      match (List.range b.size).find? fun i => b[i]! == c with
      | some i => Pure.pure (goInt i)
      | none => Pure.pure (goInt (-1))) w = Sem.run PP (do
      let b ← Extern.Bytes.bytesOf (.string (toBA l))
      let c ← Extern.Bytes.asByte (.int .u8 (Int.ofNat c))
      match (List.range b.size).find? fun i => b[i]! == c with
      | some i => Pure.pure (goInt i)
      | none => Pure.pure (goInt (-1))) w
    rw [Sem.run_bind, hr, Sem.run_bind]
    rfl

theorem ext_count {f : FuncId} (hx : IsExt f Extern.BytealgCount.count) : ExtOk E f .count := by
  intro args H v H' h
  unfold extV at h
  match args, h with
  | [s, .int .u8 (.ofNat c)], h =>
    refine hx.snd (VSnd.bytes h fun l H1 h => ?_)
    rw [okN_ok] at h
    obtain ⟨rfl, rfl⟩ := h
    refine VSnd.pure ?_
    rintro ρ w s' ⟨⟨args', ha, rfl⟩, hs⟩ _
    obtain ⟨s1, c1, hs1, hc1, rfl⟩ := concs_two ha
    simp only [conc, Option.some.injEq] at hc1
    subst hc1
    obtain ⟨hr, hb⟩ := hs s1 hs1
    have hm : Nat.mod c 256 < 256 := Nat.mod_lt _ (by decide)
    refine ⟨.int .i64 (.ofNat (countByte (Nat.mod c 256) l)), ?_, rfl⟩
    have hS := Lib.run_countString (P := PP) (toBA l) (Int.ofNat c) w
    rw [byte_mod, toBA_data, ← countByte_eq hm hb] at hS
    refine Eq.trans ?_ hS
    show Sem.run PP (do
      let b ← Extern.Bytes.bytesOf s1
      let c ← Extern.Bytes.asByte (.int .u8 (Int.ofNat c))
      Pure.pure (goInt (b.foldl (fun n x => if x == c then n + 1 else n) (0 : Nat)))) w = Sem.run PP (do
      let b ← Extern.Bytes.bytesOf (.string (toBA l))
      let c ← Extern.Bytes.asByte (.int .u8 (Int.ofNat c))
      Pure.pure (goInt (b.foldl (fun n x => if x == c then n + 1 else n) (0 : Nat)))) w
    rw [Sem.run_bind, hr, Sem.run_bind]
    rfl

theorem ext_makeNoZero {f : FuncId} {ps : Array TypeId} {t el : TypeId} (ht : PP.underlying t = some (.slice el)) (hx : IsExt f (Extern.BytealgMakeNoZero.makeNoZero ps #[t])) : ExtOk E f (.makeNoZero el) := by
  intro args H v H' h
  unfold extV at h
  match args, h with
  | [.int .i64 (.ofNat n)], h =>
    rw [RV.when_ok, ble_iff, newRow_ok] at h
    obtain ⟨hle, rfl, rfl⟩ := h
    refine hx.snd (VSnd.new fun ρ w s hS _ hn => ?_)
    obtain ⟨args', ha, rfl⟩ := hS
    obtain ⟨n1, hn1, rfl⟩ := concs_one ha
    simp only [conc, Option.some.injEq] at hn1
    subst hn1
    obtain ⟨cs, hr, hcs, _⟩ := Lib.run_makeNoZero (P := PP) w ps t el ht n (by omega)
    refine ⟨_, ⟨w.heap.size, 0, cs.size⟩, .cells cs el, _, hr, rfl, rfl, rfl, rfl, rfl, ?_, ?_⟩
    · exact RowOk.fresh (lo := 0) (hi := 0) hn ⟨[], rfl, fun j y hy => by simp at hy⟩ (Nat.zero_le _) (World.alloc_heap_new w.drew.drew _) rfl (fun h => by cases h)
    · have hcp : capOf ⟨w.heap.size, 0, cs.size⟩ 0 none 1 = cs.size := by
        show (cs.size - 0) / 1 = cs.size
        rw [Nat.sub_zero, Nat.div_one]
      rw [conc_sl_mk (upd_same _ _ _ _) (by rw [hcp]; exact hcs) rfl, hcp]

/-- a mark at an address: for the trace alone -/
theorem ext_marked {f : FuncId} {mk : Addr → Mark} (hx : IsExt f (Extern.Race.marked mk)) : ExtOk E f .marked := by
  intro args H v H' h
  unfold extV at h
  match args, h with
  | [.ptr b u o], h =>
    simp only [RV.ok.injEq] at h
    obtain ⟨rfl, rfl⟩ := h
    refine hx.snd (VSnd.pure ?_)
    rintro ρ w s ⟨args', ha, rfl⟩ _
    obtain ⟨y, hy, rfl⟩ := concs_one ha
    obtain ⟨p, hp, rfl⟩ := conc_ptr hy
    exact ⟨.tuple #[], rfl, rfl⟩

/-- a map is copied -/
theorem ext_mapClone {f : FuncId} (hx : IsExt f Extern.MapsClone.clone) : ExtOk E f .mapClone := by
  intro args H v H' h
  unfold extV at h
  match args, h with
  | [.iface t (.map b)], h =>
    rw [entriesV_ok] at h
    obtain ⟨es, st, hes, h⟩ := h
    rw [touchK_eq, newO_eq] at h
    simp only [RV.ok.injEq] at h
    obtain ⟨rfl, rfl⟩ := h
    refine hx.snd (VSnd.touch hes (VSnd.new fun ρ w s hS _ hn => ?_))
    obtain ⟨⟨args', ha, rfl⟩, p, es', k, h1, h2, h3, h4, h5⟩ := hS
    obtain ⟨y, hy, rfl⟩ := concs_one ha
    simp only [conc, Option.map_eq_some_iff] at hy
    obtain ⟨_, ⟨q, hq, rfl⟩, rfl⟩ := hy
    rw [h1] at hq
    cases hq
    refine ⟨.iface t (.map (some w.heap.size)), ⟨w.heap.size, 0, 0⟩, .map es' k, w.alloc (.map es' k), ?_, rfl, rfl, rfl, rfl, rfl, ?_, ?_⟩
    · show Sem.run PP (do
        let .map entries clock ← getObj p.blk | stuck "maps.clone: a map expected"
        Pure.pure (Value.iface t (.map (some (← newObj (.map entries clock)))))) w = _
      simp [getObj, newObj, Sem.run, h3, Result.andThen]
    · exact ⟨_, es', k, upd_same _ _ _ _, fun v' hv => by unfold upd; rw [if_neg (by omega)]; exact hn v', World.alloc_heap_new w _, concP_mono E (upd_le (hn 0)) h4, h5⟩
    · simp [conc, upd_same]

end
end Go.Ev
