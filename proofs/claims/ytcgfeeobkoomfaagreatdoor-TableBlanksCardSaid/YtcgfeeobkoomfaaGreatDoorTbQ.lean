/- bytes.Repeat of one blank, four times; the cut; the writers; the places of the known table. -/
import Derived.Test.YtcgfeeobkoomfaaGreatDoorTbP
import Derived.Lib.MakeNoZero
import Derived.Laws.IdiomCopy
import Derived.Deep.MidRow
namespace Go.Proofs.YtcgfeeobkoomfaaGreatDoor
open Go.RowKit
set_option linter.unusedVariables false
set_option linter.unusedSimpArgs false
set_option maxRecDepth 40000
/-- A row of four bytes of the call's own, whose first n are blanks. -/
structure RF (w0 : World) (x n : Nat) (w : World) : Prop where
  x0 : w0.heap.size ≤ x
  x1 : x < w.heap.size
  blank : ∀ i, i < n → w.cell? ⟨x, i, none⟩ = some (.int .u8 32)
  there : ∀ i, i < 4 → (w.cell? ⟨x, i, none⟩).isSome = true
  free : ∀ i, i < 4 → w.frozen? ⟨x, i, none⟩ = false
  below : Below w0.heap.size w0 w
theorem size_setCells' (b : Nat) : ∀ (vs : List Value) (o : Nat) (w : World), (w.setCells b o vs).heap.size = w.heap.size
  | [], _, _ => rfl
  | v :: r, o, w => by rw [World.setCells, size_setCells' b r]; simp
theorem below_setCells' {B : Nat} {a : World} (b : Nat) (hb : B ≤ b) : ∀ (vs : List Value) (o : Nat) {w : World}, Below B a w → Below B a (w.setCells b o vs)
  | [], _, _, h => h
  | v :: r, o, _, h => below_setCells' b hb r (o + 1) (h.setCell (p := ⟨b, o, none⟩) hb v)
/-- n blanks are copied behind the first i. -/
theorem RF.copy {w0 W : World} {x i : Nat} (h : RF w0 x i W) (n d dc s sc : Nat) (a : Addr) (ty : TypeId) (hsrc : ∀ j, j < n → W.cell? (a.add j) = some (.int .u8 32)) (hn : i + n ≤ 4) (hm : n = Nat.min s d) :
    ∃ w2, (Builtin.copy_ #[37, 37] ty #[.slice (some ⟨x, i, none⟩) d dc, .slice (some a) s sc]).run Tryz.prog W = .ok (.int .i64 n) w2 ∧ RF w0 x (i + n) w2 := by
  have hl : (List.replicate n (Value.int .u8 32)).length = n := List.length_replicate ..
  have hr := run_copy_cells (P := Tryz.prog) W 37 37 ty 5 x i d dc a s sc (List.replicate n (.int .u8 32)) Tryz.underlying37 (by kernel_rfl) (by rw [hl, hm])
    (fun j v hv => by
      obtain ⟨hj, rfl⟩ := List.getElem?_eq_some_iff.1 hv
      rw [hl] at hj
      rw [List.getElem_replicate]; exact hsrc j hj)
    (fun j hj => h.there _ (by rw [hl] at hj; omega)) (fun j hj => h.free _ (by rw [hl] at hj; omega)) (fun v hv => by rw [(List.mem_replicate.1 hv).2]; rfl)
  rw [hl] at hr
  refine ⟨_, hr, h.x0, by rw [size_setCells']; exact h.x1, ?_, ?_, ?_, below_setCells' x h.x0 _ _ h.below⟩
  · intro j hj
    rcases Nat.lt_or_ge j i with hlt | hge
    · rw [World.cell?_setCells_out x _ i W _ (fun _ _ => .inl hlt)]; exact h.blank j hlt
    · have := World.cell?_setCells_in x (List.replicate n (.int .u8 32)) i W (fun j hj => h.there _ (by rw [hl] at hj; omega)) (j - i) (by rw [hl]; omega)
      rw [show i + (j - i) = j by omega] at this
      rw [this, List.getElem_replicate]
  · intro j hj
    exact World.isSome_setCells x _ _ _ _ (h.there j hj)
  · intro j hj
    rw [World.frozen?_setCells]; exact h.free j hj
theorem RF.dr {w0 w : World} {x n : Nat} (h : RF w0 x n w) : RF w0 x n w.drew := ⟨h.x0, h.x1, h.blank, h.there, h.free, h.below.drew⟩
theorem mnz4 (w : World) : ∃ c w', (callFunc 123 #[.int .i64 4]).run Tryz.prog w = .ok (.value (.slice (some ⟨w.heap.size, 0, none⟩) 4 c)) w' ∧ 4 ≤ c ∧ RF w w.heap.size 0 w' := by
  obtain ⟨cs, hrun, hle, hmax⟩ := Lib.run_makeNoZero (P := Tryz.prog) w #[3] 37 5 Tryz.underlying37 4 (by omega)
  refine ⟨cs.size, w.drew.drew.alloc (.cells cs 5), ?_, hle, Nat.le_refl _, by simp, fun i hi => by omega, ?_, ?_, ((Below.refl _ w).drew.drew).alloc (by simp) _⟩
  · rw [run_callFunc_extern Tryz.func123 (by kernel_rfl) (by kernel_rfl) (by kernel_rfl) (e := Extern.BytealgMakeNoZero.makeNoZero #[3] #[37]) (by kernel_rfl)]
    have hrun' : (Extern.BytealgMakeNoZero.makeNoZero #[3] #[37] #[.int .i64 4]).run Tryz.prog w = _ := hrun
    rw [hrun']; rfl
  · intro i hi
    have : (w.drew.drew.alloc (.cells cs 5)).cell? ⟨w.drew.drew.heap.size, i, none⟩ = cs[i]? := by simp [go_sem]
    have e : (w.drew.drew.alloc (.cells cs 5)).cell? ⟨w.heap.size, i, none⟩ = cs[i]? := this
    rw [e, Array.getElem?_eq_getElem (by omega)]; rfl
  · intro i hi
    have : (w.drew.drew.alloc (.cells cs 5)).frozen? ⟨w.drew.drew.heap.size, i, none⟩ = false := by simp [go_sem]
    exact this
set_option maxHeartbeats 4000000 in
theorem rep4 (bS c : Nat) (w : World) (hz : bS < w.heap.size) (h : w.cell? ⟨bS, 0, none⟩ = some (.int .u8 32)) :
    Calls Tryz.prog 94 #[.slice (some ⟨bS, 0, none⟩) 1 c, .int .i64 4] w fun e w' => e = .returned (.slice (some ⟨w.heap.size, 0, none⟩) 4 4) ∧ RF w w.heap.size 4 w' := by
  obtain ⟨cp, w1, hM, hcp, hR⟩ := mnz4 w
  obtain ⟨w2, hC, hR2⟩ := hR.copy 1 4 4 1 c ⟨bS, 0, none⟩ 3 (fun j hj => by
    have : j = 0 := by omega
    subst this
    exact (hR.below.cell (p := ⟨bS, 0, none⟩) hz).trans h) (by omega) rfl
  have hMul : Hid (∀ W, Calls Tryz.prog 122 #[.int .u64 1, .int .u64 4] W fun e w' => e = .returned (.tuple #[.int .u64 0, .int .u64 4]) ∧ W = w') := Lib.hid (fun W => (Tryz.bits_Mul 1 4 (by omega) (by omega) W).mono fun e w' h => ⟨h.1, h.2.symm⟩)
  replace hC : (Builtin.copy_ #[37, 37] 3 #[.slice (some ⟨w.heap.size, 0, none⟩) 4 4, .slice (some ⟨bS, 0, none⟩) 1 c]).run Tryz.prog w1 = .ok (.int .i64 1) w2 := hC
  replace hR2 : RF w w.heap.size 1 w2 := hR2
  have hcp' : ¬ (cp : Int) < 4 := by omega
  go_enter Tryz.func94, Tryz.ntmps94
  go_wp2_with fail
  refine (hMul.out _).mono ?_
  rintro e w' ⟨rfl, rfl⟩
  go_wp2_with fail
  go_loopw [10] (fun t wr => (t = .int .i64 1 ∧ RF w w.heap.size 1 wr) ∨ (t = .int .i64 2 ∧ RF w w.heap.size 2 wr) ∨ (t = .int .i64 4 ∧ RF w w.heap.size 4 wr)) (fun t _ => 4 - (intOf t).toNat)
  case atStart => exact .inl ⟨rfl, hR2⟩
  case round =>
    clear hR hR2 hC hM
    rcases hrel with ⟨rfl, hr⟩ | ⟨rfl, hr⟩ | ⟨rfl, hr⟩
    · obtain ⟨w3, hC, hR3⟩ := hr.dr.copy 1 3 3 1 4 ⟨w.heap.size, 0, none⟩ 3 (fun j hj => by
        have : j = 0 := by omega
        subst this
        exact hr.blank 0 (by omega)) (by omega) rfl
      replace hC : (Builtin.copy_ #[37, 37] 3 #[.slice (some ⟨w.heap.size, 1, none⟩) 3 3, .slice (some ⟨w.heap.size, 0, none⟩) 1 4]).run Tryz.prog wr.drew = .ok (.int .i64 1) w3 := hC
      have m1 : (min (1 : Int) 4) = 1 := by decide
      have m2 : (min (2 : Int) 4) = 2 := by decide
      go_wp2_with fail
      go_region
      go_wp2_with fail
      exact ⟨.inr (.inl ⟨rfl, hR3⟩), by decide⟩
    · obtain ⟨w3, hC, hR3⟩ := hr.dr.copy 2 2 2 2 4 ⟨w.heap.size, 0, none⟩ 3 (fun j hj => by
        rcases (show j = 0 ∨ j = 1 by omega) with rfl | rfl
        · exact hr.blank 0 (by omega)
        · exact hr.blank 1 (by omega)) (by omega) rfl
      replace hC : (Builtin.copy_ #[37, 37] 3 #[.slice (some ⟨w.heap.size, 2, none⟩) 2 2, .slice (some ⟨w.heap.size, 0, none⟩) 2 4]).run Tryz.prog wr.drew = .ok (.int .i64 2) w3 := hC
      have m1 : (min (1 : Int) 4) = 1 := by decide
      have m2 : (min (2 : Int) 4) = 2 := by decide
      go_wp2_with fail
      go_region
      go_wp2_with fail
      exact ⟨.inr (.inr ⟨rfl, hR3⟩), by decide⟩
    · go_wp2_with fail
      go_ret
      exact ⟨rfl, hr⟩
end Go.Proofs.YtcgfeeobkoomfaaGreatDoor
