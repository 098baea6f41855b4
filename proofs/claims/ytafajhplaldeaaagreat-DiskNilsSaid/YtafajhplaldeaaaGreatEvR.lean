/- The plain operations: conversions, made slices, strings out of memory. -/
import Derived.Test.YtafajhplaldeaaaGreatEvQ
import Derived.Lib.UnsafeStr
import Derived.Laws.BytesString
set_option linter.unusedVariables false
set_option linter.unusedSimpArgs false
namespace Go.Ev
open Go
attribute [local irreducible] PP

section
variable {E : Nat → Value}

/-! ### bytes and texts -/
theorem bytesOf_ok : ∀ {l : List VV} {s : List Nat}, bytesOf l = .ok s → l = s.map byteV ∧ ∀ i ∈ s, i < 256
  | [], s, h => by simp only [bytesOf, R.ok.injEq] at h; subst h; simp
  | x :: l, s, h => by
    unfold bytesOf at h
    cases x <;> try (simp only [reduceCtorEq] at h; done)
    rename_i k n
    cases k <;> try (simp only [reduceCtorEq] at h; done)
    cases n <;> try (simp only [reduceCtorEq] at h; done)
    rename_i n
    simp only at h
    split at h
    · rename_i r h1 h2
      simp only [R.ok.injEq] at h
      subst h
      obtain ⟨e1, e2⟩ := bytesOf_ok h2
      refine ⟨by rw [e1]; rfl, fun i hi => ?_⟩
      rcases List.mem_cons.1 hi with rfl | hi
      · exact blt_iff.1 h1
      · exact e2 i hi
    · cases h

theorem foldl_push : ∀ (s : List Nat) (r : ByteArray), (∀ i ∈ s, i < 256) → (s.map fun b => ((UInt8.ofNat b).toNat : Int)).foldl (fun r n => r.push (UInt8.ofNat n.toNat)) r = r ++ toBA s
  | [], r, _ => by apply ba_eq; simp [ByteArray.data_append, toBA_data]
  | b :: s, r, h => by
    simp only [List.map_cons, List.foldl_cons]
    rw [foldl_push s _ (fun i hi => h i (by simp [hi]))]
    apply ba_eq
    have hb : UInt8.ofNat (((UInt8.ofNat b).toNat : Int)).toNat = UInt8.ofNat b := by
      show UInt8.ofNat (UInt8.ofNat b).toNat = _
      exact UInt8.ofNat_toNat
    simp only [hb, ByteArray.data_append, toBA_data, ByteArray.push, Array.toList_append, Array.toList_push, List.map_cons, List.append_assoc, List.singleton_append]

theorem encN_bytes (n : Int) : toBA (encN n) = Utf8.encode n := toBA_of _

theorem bytes_u8 {ρ : Rho} {s : List Nat} {ys : List Value} (hb : ∀ i ∈ s, i < 256) (h : concs E ρ (s.map byteV) = some ys) : ys = s.map fun b => .int .u8 (UInt8.ofNat b).toNat := by
  rw [bytes_conc hb] at h
  exact (Option.some.inj h).symm

theorem runesBytes_ok : ∀ {l : List VV} {s : List Nat}, runesBytes l = .ok s → ∃ ns : List Int, l = ns.map (VV.int .i32) ∧ s = (ns.map encN).flatten
  | [], s, h => by simp only [runesBytes, R.ok.injEq] at h; subst h; exact ⟨[], rfl, rfl⟩
  | x :: l, s, h => by
    unfold runesBytes at h
    cases x <;> try (simp only [reduceCtorEq] at h; done)
    rename_i k n
    cases k <;> try (simp only [reduceCtorEq] at h; done)
    simp only at h
    split at h
    · rename_i r hr
      simp only [R.ok.injEq] at h
      subst h
      obtain ⟨ns, e1, e2⟩ := runesBytes_ok hr
      exact ⟨n :: ns, by rw [e1]; rfl, by rw [e2]; rfl⟩
    · cases h

theorem encN_lt (n : Int) : ∀ i ∈ encN n, i < 256 := toNat_lt256 _

theorem run_forIn_runes {w : World} (f : Value → ByteArray → Sem (ForInStep ByteArray))
    (hf : ∀ (n : Int) (r : ByteArray), (f (.int .i32 n) r).run PP w = .ok (.yield (r ++ Utf8.encode n)) w) :
    ∀ (ns : List Int) (s : ByteArray), (forIn (ns.map (Value.int .i32)) s f).run PP w = .ok (s ++ toBA (ns.map encN).flatten) w := by
  intro ns
  induction ns with
  | nil => intro s; simp only [List.map_nil, List.forIn_nil, Sem.run_pure, List.flatten_nil]; congr 1; apply ba_eq; simp [ByteArray.data_append, toBA_data]
  | cons n ns ih =>
    intro s
    simp only [List.map_cons, List.forIn_cons, Sem.run_bind, hf, Result.andThen, List.flatten_cons]
    rw [ih, ← toBA_append, encN_bytes, ByteArray.append_assoc]

theorem run_runesToString (w : World) (a : Addr) (len cap : Nat) (ns : List Int) (h : (loadCells a len).run PP w = .ok (ns.map (Value.int .i32)).toArray w) :
    (Conv.runesToString (.slice (some a) len cap)).run PP w = .ok (.string (toBA (ns.map encN).flatten)) w := by
  unfold Conv.runesToString
  simp only [Sem.run_bind, h, Result.andThen, List.forIn_toArray]
  rw [run_forIn_runes _ (by intro n r; simp [Sem.run_pure])]
  simp only [Sem.run_pure]
  congr 2

theorem runes_conc {ρ : Rho} : ∀ {ns : List Int} {ys : List Value}, concs E ρ (ns.map (VV.int .i32)) = some ys → ys = ns.map (Value.int .i32)
  | [], ys, h => by simp only [List.map_nil, concs, Option.some.injEq] at h; exact h.symm
  | n :: ns, ys, h => by
    simp only [List.map_cons, concs, conc, Option.bind_some, Option.map_eq_some_iff] at h
    obtain ⟨zs, hz, rfl⟩ := h
    rw [runes_conc hz]; rfl

/-- the runes of a text, as the model collects them -/
theorem runesFrom_eq {ρ : Rho} (s : ByteArray) : ∀ (n i : Nat) (acc : Array Value), ∃ ys, concs E ρ (runesOf s n i) = some ys ∧ Conv.runesFrom s n i acc = acc ++ ys.toArray
  | 0, i, acc => ⟨[], rfl, by simp [Conv.runesFrom]⟩
  | n + 1, i, acc => by
    unfold runesOf Conv.runesFrom
    by_cases h : i < s.size
    · rw [if_pos h, show Nat.blt i s.size = true from blt_iff.2 h]
      simp only
      obtain ⟨ys, h1, h2⟩ := runesFrom_eq (ρ := ρ) s n (i + (Utf8.decode s i).2) (acc.push (.int .i32 (Int.ofNat (Utf8.decode s i).1)))
      refine ⟨.int .i32 (Int.ofNat (Utf8.decode s i).1) :: ys, ?_, ?_⟩
      · simp only [concs, conc, Option.bind_some, h1, Option.map_some]
      · rw [h2]; apply Array.ext'; simp
    · rw [if_neg h]
      have : Nat.blt i s.size = false := by
        cases hb : Nat.blt i s.size with
        | false => rfl
        | true => exact absurd (blt_iff.1 hb) h
      rw [this]
      exact ⟨[], rfl, by simp⟩

/-! ### a row of bytes just made -/
theorem modify_push {α : Type} (a : Array α) (x : α) (f : α → α) : (a.push x).modify a.size f = a.push (f x) := by
  apply Array.ext'
  apply List.ext_getElem?
  intro j
  rw [Array.getElem?_toList, Array.getElem?_toList, Array.getElem?_modify]
  by_cases e : a.size = j
  · subst e; simp
  · rw [if_neg e, Array.getElem?_push, Array.getElem?_push, if_neg (Ne.symm e), if_neg (Ne.symm e)]

def rowBytes (s : ByteArray) (cap : Nat) : Array Value := s.data.map (fun b : UInt8 => Value.int .u8 b.toNat) ++ Array.replicate (cap - s.size) (Value.int .u8 0)

theorem rowBytes_size {s : ByteArray} {cap : Nat} (h : s.size ≤ cap) : (rowBytes s cap).size = cap := by
  have : s.data.size = s.size := rfl
  simp only [rowBytes, Array.size_append, Array.size_map, Array.size_replicate]
  omega

theorem run_stringToBytes (e : TypeId) (s : ByteArray) (w : World) : ∃ (C : Array Value) (w' : World), (Conv.stringToBytes e s).run PP w = .ok (.slice (some ⟨w.heap.size, 0, none⟩) s.size C.size) w' ∧
    w'.heap = w.heap.push (.cells C e (C.size, C.size + 1)) ∧ w'.os = w.os ∧ w'.tape = w.tape ∧ w'.output = w.output ∧ s.size ≤ C.size ∧ ∀ (j : Nat) (b : UInt8), s.data[j]? = some b → C[j]? = some (Value.int .u8 b.toNat) := by
  have hg : s.size ≤ grownCap w s.size 0 e := by show s.size ≤ s.size + _ % _; omega
  have hc := rowBytes_size hg
  refine ⟨rowBytes s (grownCap w s.size 0 e), (w.drew.alloc (.cells (rowBytes s (grownCap w s.size 0 e)) e)).freeze ⟨w.heap.size, (rowBytes s (grownCap w s.size 0 e)).size, none⟩ 1, ?_, ?_, rfl, rfl, rfl, by rw [hc]; exact hg, ?_⟩
  · have hsh : (w.drew.alloc (.cells (rowBytes s (grownCap w s.size 0 e)) e)).shape? w.heap.size = some (e, (rowBytes s (grownCap w s.size 0 e)).size) := by
      have := World.alloc_heap_new w.drew (.cells (rowBytes s (grownCap w s.size 0 e)) e)
      simp only [World.shape?]
      rw [show w.heap.size = w.drew.heap.size from rfl, this]
    have hch : (choose (.appendCap s.size 0 e)).run PP w = .ok (grownCap w s.size 0 e) w.drew := by
      rw [run_choose_drew]; rfl
    have hnew : (Go.newRow e (rowBytes s (grownCap w s.size 0 e))).run PP w.drew = .ok ⟨w.heap.size, 0, none⟩ (w.drew.alloc (.cells (rowBytes s (grownCap w s.size 0 e)) e)) := by
      simp [Go.newRow]
    simp only [Conv.stringToBytes, Sem.run_bind, hch, Result.andThen_ok]
    show ((Go.newRow e (rowBytes s (grownCap w s.size 0 e))).run PP w.drew).andThen _ = _
    rw [hnew]
    simp only [Result.andThen_ok, markStringish, Sem.run_bind, run_shape, hsh, run_freeze, Sem.run_pure, hc]
  · simp only [World.freeze, Nat.add_one_ne_zero, if_false]
    show (w.heap.push _).modify w.heap.size _ = _
    rw [modify_push]
    simp
  · intro j b hb
    have hj : j < s.data.size := (Array.getElem?_eq_some_iff.1 hb).1
    unfold rowBytes
    rw [Array.getElem?_append, if_pos (by simpa using hj), Array.getElem?_map, hb]; rfl

theorem run_stringToRunes (e : TypeId) (s : ByteArray) (w : World) {ρ : Rho} : ∃ (ys : List Value) (C : Array Value) (w' : World), concs E ρ (runesOf s s.size 0) = some ys ∧ (Conv.stringToRunes e s).run PP w = .ok (.slice (some ⟨w.heap.size, 0, none⟩) ys.length C.size) w' ∧
    w'.heap = w.heap.push (.cells C e) ∧ w'.os = w.os ∧ w'.tape = w.tape ∧ w'.output = w.output ∧ ys.length ≤ C.size ∧ ∀ (j : Nat) (y : Value), ys[j]? = some y → C[j]? = some y := by
  obtain ⟨ys, h1, h2⟩ := runesFrom_eq (E := E) (ρ := ρ) s s.size 0 #[]
  have hg : ys.length ≤ grownCap w ys.length 0 e := by show ys.length ≤ ys.length + _ % _; omega
  have hch : (choose (.appendCap ys.length 0 e)).run PP w = .ok (grownCap w ys.length 0 e) w.drew := by
    rw [run_choose_drew]; rfl
  have e1 : (#[] ++ ys.toArray : Array Value) = ys.toArray := by apply Array.ext'; simp
  rw [e1] at h2
  refine ⟨ys, ys.toArray ++ Array.replicate (grownCap w ys.length 0 e - ys.length) (.int .i32 0), w.drew.alloc (.cells (ys.toArray ++ Array.replicate (grownCap w ys.length 0 e - ys.length) (.int .i32 0)) e), h1, ?_, rfl, rfl, rfl, rfl, by simp, fun j y hy => ?_⟩
  · simp only [Conv.stringToRunes, h2, List.size_toArray, Sem.run_bind, hch, Result.andThen_ok, Go.newRow, run_newObj_alloc, Sem.run_pure, World.size_drew]
    congr 2
    simp
    omega
  · have hj : j < ys.length := (List.getElem?_eq_some_iff.1 hy).1
    rw [Array.getElem?_append, if_pos (by simpa using hj), List.getElem?_toArray, hy]

/-! ### cells frozen -/
def frz (lo hi o n : Nat) : Nat × Nat := if lo == hi then (o, o + n) else (min lo o, max hi (o + n))

theorem frz_hi {lo hi o n F : Nat} (h : lo = hi ∨ hi ≤ F) (hn : o + n ≤ F) : (frz lo hi o n).2 ≤ F := by
  unfold frz
  by_cases e : lo = hi
  · rw [if_pos (by simpa using e)]; exact hn
  · rw [if_neg (by simpa using e)]
    show max hi (o + n) ≤ F
    omega

theorem freeze_put {w : World} {b o n : Nat} {C : Array Value} {el : TypeId} {lo hi : Nat} (h : w.heap[b]? = some (.cells C el (lo, hi))) (hn : n ≠ 0) :
    (w.freeze ⟨b, o, none⟩ n).heap = w.heap.setIfInBounds b (.cells C el ((frz lo hi o n).1, (frz lo hi o n).2)) := by
  unfold World.freeze
  rw [if_neg hn]
  apply Array.ext'
  apply List.ext_getElem?
  intro j
  rw [Array.getElem?_toList, Array.getElem?_toList, Array.getElem?_modify]
  by_cases e : b = j
  · subst e
    have hi : b < w.heap.size := (Array.getElem?_eq_some_iff.1 h).1
    rw [if_pos rfl, h]
    simp [hi, frz]
  · rw [if_neg e, Array.getElem?_setIfInBounds_ne e]

theorem freeze_os (w : World) (a : Addr) (n : Nat) : (w.freeze a n).os = w.os := by unfold World.freeze; split <;> rfl
theorem freeze_tape (w : World) (a : Addr) (n : Nat) : (w.freeze a n).tape = w.tape := by unfold World.freeze; split <;> rfl
theorem freeze_out (w : World) (a : Addr) (n : Nat) : (w.freeze a n).output = w.output := by unfold World.freeze; split <;> rfl

end
end Go.Ev
