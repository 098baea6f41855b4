/- Rows of bytes of a call's own: one byte more; a slice of bytes as a text. -/
import Derived.Test.YtcgfeeobkoomfaaGreatDoorTbK
import Derived.Laws.OwnMore
import Derived.Laws.AppendOwn
import Derived.Deep.AppendLies
import Derived.Deep.Draws
import Derived.OwnWalk
import Derived.OneCell
import Derived.Laws.IdiomRangeMap
import Derived.Laws.BytesArg
namespace Go.Proofs.YtcgfeeobkoomfaaGreatDoor
open Go.RowKit
set_option linter.unusedVariables false
set_option linter.unusedSimpArgs false
set_option maxRecDepth 40000

theorem block_of_plus (a : Addr) (n : Nat) : (a.add n).block = a.block := by unfold Addr.add; split <;> rfl
theorem plus_plus (a : Addr) (i j : Nat) : (a.add i).add j = a.add (i + j) := by
  unfold Addr.add
  by_cases hi : i = 0 <;> by_cases hj : j = 0 <;> simp [hi, hj, Nat.add_assoc]

/-- The slice that begins at A has the numbers zs; it lies below block B. -/
def Rd (w : World) (B : Nat) (k : IntKind) (A : Option Addr) (zs : List Int) : Prop :=
  0 < zs.length → ∃ ad, A = some ad ∧ ad.block < B ∧ ∀ j, j < zs.length → w.cell? (ad.add j) = some (.int k (zs.getD j 0))

section
variable {w w' : World} {B B' : Nat} {k : IntKind} {A : Option Addr} {zs : List Int}
theorem Rd.nil : Rd w B k A [] := fun h => by simp at h
theorem Rd.keep (h : Rd w B k A zs) (hk : ∀ p : Addr, p.block < B → w'.cell? p = w.cell? p) : Rd w' B k A zs := fun hn => by
  obtain ⟨ad, e, hb, hc⟩ := h hn
  exact ⟨ad, e, hb, fun j hj => (hk _ (by rw [block_of_plus]; exact hb)).trans (hc j hj)⟩
theorem Rd.more (h : Rd w B k A zs) (hB : B ≤ B') : Rd w B' k A zs := fun hn => by
  obtain ⟨ad, e, hb, hc⟩ := h hn
  exact ⟨ad, e, by omega, hc⟩
theorem Rd.below (h : Rd w B k A zs) (hb : Below B w w') : Rd w' B k A zs := h.keep fun _ hp => hb.cell hp
theorem Rd.drewN (h : Rd w B k A zs) (n : Nat) : Rd (w.drewN n) B k A zs := h
theorem Rd.alloc (h : Rd w B k A zs) (hB : B ≤ w.heap.size) (o : Obj) : Rd (w.alloc o) B k A zs := h.keep fun p hp => World.cell?_alloc_lt w o p (by omega)
theorem Rd.setCell (h : Rd w B k A zs) {p : Addr} (hB : B ≤ p.block) (u : Value) : Rd (w.setCell p u) B k A zs :=
  h.keep fun q hq => World.cell?_setCell_other w p q u (fun e => by subst e; omega)
theorem Rd.grown (h : Rd w B k A zs) {row : Option Nat} (hg : w.grownBy w' row) (hB : B ≤ w.heap.size) (hr : ∀ g, row = some g → B ≤ g) : Rd w' B k A zs :=
  h.keep fun p hp => World.cell?_of_block (hg.block p.block (by omega) (fun e => by have := hr _ e.symm; omega))
theorem Rd.cut {c : Nat} (h : Rd w B k A zs) (i : Nat) (hi : i ≤ zs.length) (hc : zs.length ≤ c) :
    Rd w B k (if c = i then A else A.map (·.add i)) (zs.drop i) := fun hn => by
  have hlen : i < zs.length := by simp at hn; omega
  obtain ⟨ad, rfl, hb, hcell⟩ := h (by omega)
  rw [if_neg (by omega)]
  refine ⟨ad.add i, rfl, by rw [block_of_plus]; exact hb, fun j hj => ?_⟩
  rw [plus_plus, hcell _ (by simp at hj; omega)]
  simp [List.getD, List.getElem?_drop]
theorem Rd.own {base : Nat} {e : TypeId} {c n : Nat} (h : w.ownsRow base e 1 (.slice A n c) n (zs.map (Value.int k))) : Rd w w.heap.size k A zs := fun hn => by
  have hl : n = zs.length := by have := h.1; simp at this; omega
  obtain ⟨g, cap, hv, _, hlt⟩ := h.form (by omega)
  have hA : A = some ⟨g, 0, none⟩ := by injection hv
  subst hA
  refine ⟨_, rfl, hlt, fun j hj => ?_⟩
  have := h.cells (g := g) rfl j (.int k (zs.getD j 0)) (by simp [List.getD, List.getElem?_eq_getElem hj])
  exact this
end
/-- The world after reading in an open order. -/
def Dr (w w' : World) : Prop := ∃ m, w' = w.drewN m
theorem Dr.refl (w : World) : Dr w w := ⟨0, rfl⟩
theorem Dr.trans {a b c : World} (h : Dr a b) (k : Dr b c) : Dr a c := by
  obtain ⟨m, rfl⟩ := h; obtain ⟨n, rfl⟩ := k; exact ⟨m + n, by rw [World.drewN_drewN]⟩
theorem Dr.below {B : Nat} {a b c : World} (h : Below B a b) (k : Dr b c) : Below B a c := by
  obtain ⟨m, rfl⟩ := k; exact ⟨h.os, h.tape, h.output, h.size, h.block⟩

theorem Dr.cell {a b : World} (h : Dr a b) (p : Addr) : b.cell? p = a.cell? p := by obtain ⟨m, rfl⟩ := h; rfl
theorem Dr.step {a b : World} (h : Dr a b) (n : Nat) : Dr a (b.drewN n) := h.trans ⟨n, rfl⟩
theorem Rd.dr {w w' : World} {B : Nat} {k : IntKind} {A : Option Addr} {zs : List Int} (h : Rd w B k A zs) (hd : Dr w w') : Rd w' B k A zs := by obtain ⟨m, rfl⟩ := hd; exact h
/-- v is a slice of the call's own, in blocks from base on, with the numbers zs. -/
def Own (w : World) (base : Nat) (e : TypeId) (k : IntKind) (v : Value) (zs : List Int) : Prop := w.ownsRow base e 1 v zs.length (zs.map (Value.int k))

section
variable {w w' : World} {base : Nat} {e : TypeId} {k : IntKind} {v : Value} {zs : List Int}
theorem Own.nil (w : World) (base : Nat) (e : TypeId) (k : IntKind) : Own w base e k (.slice none 0 0) [] := ⟨by simp, .inl ⟨rfl, rfl⟩⟩
theorem Own.alloc (h : Own w base e k v zs) (o : Obj) : Own (w.alloc o) base e k v zs := World.ownsRow.alloc h o
theorem Own.of_eq {ys : List Int} (h : Own w base e k v zs) (he : zs = ys) : Own w base e k v ys := he ▸ h
theorem Own.dr (h : Own w base e k v zs) (hd : Dr w w') : Own w' base e k v zs := by obtain ⟨m, rfl⟩ := hd; exact h
theorem Own.block (h : Own w base e k v zs) {g : Nat} (hg : v.ownBlock = some g) : base ≤ g ∧ g < w.heap.size := by
  rcases h.2 with ⟨rfl, _⟩ | ⟨g', cap, cur, rfl, hb, hh, _⟩
  · simp [Value.ownBlock] at hg
  · have : g' = g := by simpa [Value.ownBlock] using hg
    subst this
    refine ⟨hb, ?_⟩
    rcases Nat.lt_or_ge g' w.heap.size with hlt | hge
    · exact hlt
    · rw [Array.getElem?_eq_none hge] at hh; cases hh
theorem Own.low {b : Nat} (h : Own w base e k v zs) (hb : b ≤ base) : Own w b e k v zs := by
  refine ⟨h.1, ?_⟩
  rcases h.2 with hn | ⟨g', cap, cur, hv, hb', rest⟩
  · exact .inl hn
  · exact .inr ⟨g', cap, cur, hv, by omega, rest⟩
theorem Own.below {B : Nat} (h : Own w base e k v zs) (hb : Below B w w') (hB : w.heap.size ≤ B) : Own w' base e k v zs := by
  refine ⟨h.1, ?_⟩
  rcases h.2 with hn | ⟨g', cap, cur, hv, hb', hh, rest⟩
  · exact .inl hn
  · refine .inr ⟨g', cap, cur, hv, hb', ?_, rest⟩
    have hlt : g' < w.heap.size := by
      rcases Nat.lt_or_ge g' w.heap.size with hlt | hge
      · exact hlt
      · rw [Array.getElem?_eq_none hge] at hh; cases hh
    rw [hb.block g' (by omega), hh]
theorem Own.out (h : Own w base e k v zs) : ∃ A c, v = .slice A zs.length c ∧ zs.length ≤ c ∧ c ≤ maxLen ∧ Rd w w.heap.size k A zs := by
  have h' := h
  rcases h.2 with ⟨rfl, hn⟩ | ⟨g', cap, cur, rfl, hb', hh, hnc, hcm, _⟩
  · exact ⟨none, 0, by rw [hn], by omega, by simp, fun h0 => by omega⟩
  · exact ⟨some ⟨g', 0, none⟩, cap, rfl, hnc, hcm, Rd.own h'⟩
end

theorem Below.of_alloc (w : World) (o : Obj) (B : Nat) (h : B ≤ w.heap.size) : Below B w (w.alloc o) := (Below.refl _ _).alloc h o

theorem new_cell (w : World) (v : Value) (t : TypeId) : (w.alloc (.cells #[v] t)).cell? ⟨w.heap.size, 0, none⟩ = some v := by
  exact cell_of_one (heap_alloc_new w _)
theorem size_alloc {B : Nat} {w : World} (h : B ≤ w.heap.size) (o : Obj) : B ≤ (w.alloc o).heap.size := by simp; omega

theorem info5 : (Tryz.prog.info? 5).map (fun i => (i.zero, i.size, i.bytes)) = some (some (.int .u8 0), 1, 1) := by kernel_rfl

/-- out = append(out, z) of bytes. -/
theorem app_byte {w : World} {ops : Array Oper} {rest : List Oper} {o : Oper} {a : Act} {Q : Exit → Act → World → Prop} (hgd : o.guard = none) (s x : Operand)
    (ho : o.op = .call { callee := .builtin .append, args := #[s, x], argTypes := #[37, 37] })
    (base : Nat) (v : Value) (zs : List Int) (z : Int) (hs : a.eval s = v) (hown : Own w base 5 .u8 v zs)
    (ad : Addr) (c : Nat) (hx : a.eval x = .slice (some ad) 1 c) (hc : w.cell? ad = some (.int .u8 z)) (hlen : zs.length ≤ 1000000) (hbase : base ≤ w.heap.size)
    (h : ∀ v' w', Own w' base 5 .u8 v' (zs ++ [z]) → Below base w w' → w.grownBy w' v.ownBlock → wpList Tryz.prog ops Q rest (a.put o.dst v') w') : wpList Tryz.prog ops Q (o :: rest) a w := by
  obtain ⟨i0, hi0, hz0, hz1, hz2⟩ := info_parts info5
  refine wpList_append_own w hgd s x 37 ho base 5 i0 (.int .u8 0) 1 1 Tryz.underlying37 hi0 hz0 hz1 hz2 rfl (by decide) v zs.length _ hs hown ad 1 c [.int .u8 z] hx rfl ?_ ?_ (by simp only [maxLen]; omega) (by omega) hbase ?_
  · intro j u hu
    rcases j with _ | j
    · simp at hu; subst hu; simpa [Addr.add] using hc
    · simp at hu
  · intro u hu; simp at hu; subst hu; rfl
  · intro v' w' hown' hg _
    exact h v' w' (by unfold Own; simpa using hown') ((Below.refl _ _).grown hg hbase fun g hg' => (hown.block hg').1) hg

theorem conv_bytes {w : World} {B : Nat} {A : Option Addr} {zs : List Int} (h : Rd w B .u8 A zs) (c : Nat) : (convert 37 9 (.slice A zs.length c)).run Tryz.prog w = .ok (.string (strOfNums zs)) w := by
  rw [run_convert_bytes_string w _ _ _ A zs.length c Tryz.underlying37 Tryz.underlying5 Tryz.underlying9]
  rcases Nat.eq_zero_or_pos zs.length with h0 | h0
  · obtain rfl := List.length_eq_zero_iff.1 h0
    cases A <;> simp [Conv.bytesToString, loadCells] <;> rfl
  · obtain ⟨ad, rfl, _, hc⟩ := h h0
    have hl : (loadCells ad zs.length).run Tryz.prog w = .ok (zs.map (Value.int .u8)).toArray w := by
      have := run_loadCells_list (P := Tryz.prog) w ad (zs.map (Value.int .u8)) (fun j v hj => by
        rw [List.getElem?_map, Option.map_eq_some_iff] at hj
        obtain ⟨z, hz, rfl⟩ := hj
        obtain ⟨hj, rfl⟩ := List.getElem?_eq_some_iff.1 hz
        rw [hc j hj, List.getD, List.getElem?_eq_getElem hj]; rfl)
      simpa using this
    rw [run_bytesToString w _ zs.length c zs hl, foldl_push_bytes]
    simp [strOfNums, ByteArray.empty, ByteArray.emptyWithCapacity]
    rfl

/-- out = append(out, a row of bytes...). -/
theorem app_list {w : World} {ops : Array Oper} {rest : List Oper} {o : Oper} {a : Act} {Q : Exit → Act → World → Prop} (hgd : o.guard = none) (s x : Operand)
    (ho : o.op = .call { callee := .builtin .append, args := #[s, x], argTypes := #[37, 37] })
    (base : Nat) (v : Value) (zs news : List Int) (hs : a.eval s = v) (hown : Own w base 5 .u8 v zs)
    (ad : Addr) (n c : Nat) (hx : a.eval x = .slice (some ad) n c) (hn : n = news.length) (hc : ∀ j, j < news.length → w.cell? (ad.add j) = some (.int .u8 (news.getD j 0))) (hlen : zs.length + news.length ≤ 1000000) (hbase : base ≤ w.heap.size)
    (h : ∀ v' w', Own w' base 5 .u8 v' (zs ++ news) → Below base w w' → w.grownBy w' v.ownBlock → wpList Tryz.prog ops Q rest (a.put o.dst v') w') : wpList Tryz.prog ops Q (o :: rest) a w := by
  obtain ⟨i0, hi0, hz0, hz1, hz2⟩ := info_parts info5
  subst hn
  refine wpList_append_own w hgd s x 37 ho base 5 i0 (.int .u8 0) 1 1 Tryz.underlying37 hi0 hz0 hz1 hz2 rfl (by decide) v zs.length _ hs hown ad news.length c (news.map (Value.int .u8)) hx (by simp) ?_ ?_ (by simp only [maxLen]; omega) (by omega) hbase ?_
  · intro j u hu
    rw [List.getElem?_map, Option.map_eq_some_iff] at hu
    obtain ⟨z, hz, rfl⟩ := hu
    obtain ⟨hj, rfl⟩ := List.getElem?_eq_some_iff.1 hz
    rw [hc j hj]
    simp [List.getD, hj]
  · intro u hu
    obtain ⟨z, _, rfl⟩ := List.mem_map.1 hu
    rfl
  · intro v' w' hown' hg _
    exact h v' w' (by unfold Own; simpa using hown') ((Below.refl _ _).grown hg hbase fun g hg' => (hown.block hg').1) hg

/-- Bytes of a number, the lowest first. -/
def lowL : Int → Nat → List Int
  | _, 0 => []
  | n, k + 1 => (n % 256) :: lowL (n / 256) k
theorem u8m (n : Int) (h : 0 ≤ n) : IntKind.u8.wrap n = n % 256 := by
  simp [IntKind.wrap, IntKind.signed, IntKind.bits]
theorem lowL_step (n : Int) (k : Nat) : lowL n (k + 1) = lowL n k ++ [(n / 256 ^ k) % 256] := by
  induction k generalizing n with
  | zero => simp [lowL]
  | succ k ih =>
    rw [lowL, ih, lowL]
    simp only [List.cons_append]
    rw [Int.ediv_ediv_of_nonneg (by decide), show (256 : Int) * 256 ^ k = 256 ^ (k + 1) by rw [Int.pow_succ, Int.mul_comm]]
theorem lowL_len (n : Int) (k : Nat) : (lowL n k).length = k := by
  induction k generalizing n with
  | zero => rfl
  | succ k ih => simp [lowL, ih]
def OwnR (base : Nat) (zs : List Int) (w : World) (e : Ending) (w' : World) : Prop := ∃ v, e = .returned v ∧ Own w' base 5 .u8 v zs ∧ Below base w w'
set_option maxHeartbeats 4000000 in
theorem appendLow_any (base : Nat) (v : Value) (zs : List Int) (n : Int) (k : Nat) (w : World) (h0 : 0 ≤ n) (h1 : n ≤ 1000000000) (hk : k ≤ 8) (hz : zs.length ≤ 900000) (hb : base ≤ w.heap.size) (h : Own w base 5 .u8 v zs) :
    Calls Tryz.prog 93 #[v, .int .i64 n, .int .i64 k] w (OwnR base (zs ++ lowL n k) w) := by
  go_enter Tryz.func93, Tryz.ntmps93
  go_wp2_with fail
  go_loopw [0, 1, 8] (fun u m i wr => ∃ j : Nat, j ≤ k ∧ i = .int .i64 j ∧ m = .int .i64 (n / 256 ^ j) ∧ Own wr base 5 .u8 u (zs ++ lowL n j) ∧ Below base w wr ∧ base ≤ wr.heap.size) (fun _ _ i _ => k - (intOf i).toNat)
  case atStart => exact ⟨0, by omega, rfl, by simp, by simpa [lowL] using h, Below.refl _ _, hb⟩
  case round =>
    obtain ⟨j, hj, rfl, rfl, ho, hb2, hbs⟩ := hrel
    have HB := Lib.hid hb2
    have HO := Lib.hid ho
    clear hb2 ho h
    by_cases hlt : j < k
    · have q0 : 0 ≤ n / 256 ^ j := Int.ediv_nonneg h0 (Int.le_of_lt (Int.pow_pos (by decide)))
      have q1 : n / 256 ^ j ≤ 1000000000 := Int.le_trans (Int.ediv_le_self _ h0) h1
      have hs := lowL_step n j
      have hd : n / 256 ^ j / 256 = n / 256 ^ (j + 1) := by rw [Int.ediv_ediv_of_nonneg (Int.le_of_lt (Int.pow_pos (by decide))), Int.pow_succ]
      have HS := Lib.hid hs
      have HD := Lib.hid hd
      clear hs hd
      have hlen : (zs ++ lowL n j).length ≤ 1000000 := by simp [lowL_len]; omega
      generalize n / 256 ^ j = m at *
      have hw8 := u8m m q0
      have HO2 := Lib.hid (HO.out.alloc (.cells #[.int .u8 (m % 256)] 5))
      go_wp2_with (at_builtin; refine app_byte rfl _ _ rfl base _ _ (m % 256) rfl HO2.out ⟨wr.heap.size, 0, none⟩ 1 rfl (new_cell _ _ _) hlen (by simp; omega) ?_; intro v' w1 hown1 hbl1 _)
      exact ⟨⟨j + 1, by omega, by go_num, by rw [HD.out], by rw [HS.out, ← List.append_assoc]; exact hown1, (HB.out.alloc hbs _).trans hbl1, by have := hbl1.size; simp at this; omega⟩, by simp [intOf]; omega⟩
    · obtain rfl : j = k := by omega
      go_wp2_with fail
      go_ret
      exact ⟨_, rfl, HO.out, HB.out⟩
end Go.Proofs.YtcgfeeobkoomfaaGreatDoor
