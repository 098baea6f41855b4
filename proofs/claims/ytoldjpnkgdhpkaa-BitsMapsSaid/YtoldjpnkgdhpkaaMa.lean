/- Map of the program. -/
import Derived.Test.YtoldjpnkgdhpkaaMp
import Derived.Test.YtoldjpnkgdhpkaaNtR
namespace Go.Proofs.Ytoldjpnkgdhpkaa
open Go.RowKit
set_option linter.unusedVariables false
set_option linter.unusedSimpArgs false

/-- Bytes of the call's own, with an error's number. -/
def BRes (w : World) (l : List Int) (n : Int) (e : Ending) (w' : World) : Prop :=
  ∃ (A : Option Addr) (c : Nat), e = .returned (.tuple #[.slice A l.length c, .int .i64 n]) ∧ Own w' w.heap.size 5 .u8 (.slice A l.length c) l ∧ Below w.heap.size w w'
theorem BRes.err {w w' : World} {e : Ending} (he : e = .returned (.tuple #[.slice none 0 0, .int .i64 1])) (hb : Below w.heap.size w w') : BRes w [] 1 e w' := ⟨none, 0, he, Own.nil _ _ _ _, hb⟩
theorem Own.bres {w w' : World} {e : Ending} {v : Value} {l : List Int} {n : Int} (he : e = .returned (.tuple #[v, .int .i64 n])) (ho : Own w' w.heap.size 5 .u8 v l) (hb : Below w.heap.size w w') : BRes w l n e w' := by
  obtain ⟨A, c, rfl, _⟩ := ho.out
  exact ⟨A, c, he, ho, hb⟩
def mapB (l : List Int) (n : Int) : Bool := cntB n && isSetB n l
def mpL (l : List Int) (n : Int) : List Int := if mapB l n then mapI l ((n.toNat + 7) / 8) else []
def mpN (l : List Int) (n : Int) : Int := if mapB l n then 0 else 1

theorem mapI_step (l : List Int) {j q m : Nat} (hj : j < l.length) (hx : l.getD j 0 = (q : Int) + 1) (hq : q / 8 < m) (ha : Asc l) (h1 : ∀ x ∈ l, 1 ≤ x) :
    mapI (l.take (j + 1)) m = (mapI (l.take j) m).set (q / 8) ((byteOf (l.take j) (q / 8) ||| 2 ^ (q % 8) : Nat) : Int) ∧ byteOf (l.take j) (q / 8) ||| 2 ^ (q % 8) = byteOf (l.take j) (q / 8) + 2 ^ (q % 8) ∧ byteOf (l.take j) (q / 8) ||| 2 ^ (q % 8) < 256 := by
  have e : l.take (j + 1) = l.take j ++ [(q : Int) + 1] := by rw [take_snocI _ hj, hx]
  have hs : (l.take (j + 1)).Sublist l := List.take_sublist _ _
  have ha1 : Asc (l.take (j + 1)) := ha.sublist hs
  have h11 : ∀ x ∈ l.take (j + 1), 1 ≤ x := fun x hx => h1 x (hs.subset hx)
  have hlt := byteOf_255 _ (q / 8) ha1 h11
  rw [e] at ha1 h11 hlt
  have ho := byteOf_or _ _ ha1 h11
  have hqe : ((q : Int) + 1).toNat - 1 = q := by omega
  have hsn := mapI_snoc (l.take j) ((q : Int) + 1) m (by rw [hqe]; exact hq)
  rw [byteOf_snoc] at hlt
  rw [hqe] at ho hsn hlt
  rw [if_pos rfl] at hlt
  rw [e, ho]
  exact ⟨hsn, rfl, hlt⟩

theorem own_zeros {w : World} {base : Nat} {g n : Nat} (h : w.ownsRow base 5 1 (.slice (some ⟨g, 0, none⟩) n n) n (madeCells (Value.int .u8 0).cells (n * 1)).toList) : Own w base 5 .u8 (.slice (some ⟨g, 0, none⟩) n n) (mapI [] n) := by
  unfold Own
  rw [mapI_len, mapI_nil, List.map_replicate]
  have e : (madeCells (Value.int .u8 0).cells (n * 1)).toList = List.replicate n (Value.int .u8 0) := by
    rw [Nat.mul_one]; exact toList_madeCells_one _ _
  rw [← e]; exact h
theorem Own.at8 {w : World} {base : Nat} {g n c j : Nat} {zs : List Int} (h : Own w base 5 .u8 (.slice (some ⟨g, 0, none⟩) n c) zs) (hn : zs.length = n) (hj : j < n) :
    w.cell? ⟨g, j, none⟩ = some (.int .u8 (zs.getD j 0)) ∧ w.frozen? ⟨g, j, none⟩ = false := by
  subst hn
  refine ⟨?_, World.ownsRow.frozenAt h j⟩
  rw [World.ownsRow.cellAt h j (by omega), List.getElem?_map]
  simp [List.getD, hj]
theorem Own.store8 {w : World} {base : Nat} {g n c j : Nat} {zs : List Int} {z : Int} (h : Own w base 5 .u8 (.slice (some ⟨g, 0, none⟩) n c) zs) (hn : zs.length = n) :
    Own (w.setCell ⟨g, j, none⟩ (.int .u8 z)) base 5 .u8 (.slice (some ⟨g, 0, none⟩) n c) (zs.set j z) := by
  subst hn
  have := (World.ownsRow.stored h j (.int .u8 z)).1
  unfold Own
  rw [List.length_set, List.map_set]
  exact this

theorem or_tab : ∀ (x : Fin 256) (k : Fin 8), bits BinOp.or IntKind.u8 (x.val : Int) ((2 : Int) ^ k.val % 256) = ((x.val ||| 2 ^ k.val : Nat) : Int) := by decide +kernel
theorem or_at (y k : Nat) (h : y < 256) (hk : k < 8) : bits BinOp.or IntKind.u8 (y : Int) ((2 : Int) ^ k % 256) = ((y ||| 2 ^ k : Nat) : Int) := or_tab ⟨y, h⟩ ⟨k, hk⟩
theorem pow_tab : ∀ (k : Fin 8), (2 : Int) ^ k.val % 256 = ((2 ^ k.val : Nat) : Int) := by decide +kernel

set_option maxHeartbeats 4000000 in
set_option maxRecDepth 20000 in
theorem map_any (A : Option Addr) (c : Nat) (l : List Int) (n : Int) (w : World) (h1 : Lk w w.heap.size A l c) :
    Calls Try.prog 37 #[.slice A l.length c, .int .i64 n] w (BRes w (mpL l n) (mpN l n)) := by
  have hl3 := h1.len
  have H1 := Lib.hid h1; clear h1
  cases hcn : cntB n
  · have e1 : mpN l n = 1 := by simp [mpN, mapB, hcn]
    have e2 : mpL l n = [] := by simp [mpL, mapB, hcn]
    rw [e1, e2]
    clear e1 e2
    go_enter Try.func37, Try.ntmps37
    go_wp2_with fail
    refine (isCount_any n _).mono ?_
    rintro e w' ⟨rfl, rfl⟩
    rw [hcn]
    go_wp2_with fail
    go_ret2
    exact .err rfl (Below.refl _ _)
  · cases hs : isSetB n l
    · have e1 : mpN l n = 1 := by simp [mpN, mapB, hs]
      have e2 : mpL l n = [] := by simp [mpL, mapB, hs]
      rw [e1, e2]
      clear e1 e2
      go_enter Try.func37, Try.ntmps37
      go_wp2_with fail
      refine (isCount_any n _).mono ?_
      rintro e w' ⟨rfl, rfl⟩
      rw [hcn]
      go_wp2_with fail
      refine (isSet_any A c l n _ _ H1.out.rd H1.out.i64 (by have := H1.out.len; omega)).mono ?_
      rintro e w' ⟨rfl, rfl⟩
      rw [hs]
      go_wp2_with fail
      go_ret2
      exact .err rfl (Below.refl _ _)
    · obtain ⟨n, rfl, hn⟩ : ∃ N : Nat, n = N ∧ N ≤ 300 := by simp [cntB] at hcn; exact ⟨n.toNat, by omega, by omega⟩
      have hS := (isSetB_iff n l).1 hs
      obtain ⟨m, hm⟩ : ∃ m, m = (n + 7) / 8 := ⟨_, rfl⟩
      have e1 : mpN l n = 0 := by simp [mpN, mapB, hs, hcn]
      have e2 : mpL l n = mapI l m := by simp [mpL, mapB, hs, hcn, hm]
      rw [e1, e2]
      clear e1 e2
      have HS := Lib.hid hS; clear hS
      have hmi : ((n : Int) + 7) / 8 = (m : Int) := by omega
      have HCN := Lib.hid hcn
      have HSS := Lib.hid hs
      clear hcn hs
      go_enter Try.func37, Try.ntmps37
      go_wp2_with fail
      refine (isCount_any n _).mono ?_
      rintro e w' ⟨rfl, rfl⟩
      rw [HCN.out]
      go_wp2_with fail
      refine (isSet_any A c l n _ _ H1.out.rd H1.out.i64 (by have := H1.out.len; omega)).mono ?_
      rintro e w' ⟨rfl, rfl⟩
      rw [HSS.out]
      obtain ⟨i0, hi0, hz0, hz1, hz2⟩ := info_parts info5
      have hm38 : m ≤ 38 := by omega
      have HMI := Lib.hid hmi; clear hm hmi
      go_wp2_with (at_make; go_loud (refine wpList_make_full _ rfl _ _ _ rfl w.heap.size 5 i0 (.int .u8 0) 1 Try.underlying52 hi0 hz0 hz1 .i64 .i64 _ _ m rfl rfl HMI.out HMI.out (by rw [hz2]; omega) (by unfold maxLen; omega) (Nat.le_refl _) ?_; intro w1 ho1 hg1; have HO1 := Lib.hid (own_zeros ho1); have HB1 := Lib.hid ((Below.refl w.heap.size w).grown hg1 (Nat.le_refl _) (by intro g hg; cases hg)); clear ho1 hg1 hi0 hz0 hz1 hz2))
      go_loopw [8, 24] (fun v i wr => ∃ j : Nat, j ≤ l.length ∧ i = .int .i64 j ∧ Own wr w.heap.size 5 .u8 (.slice (some ⟨w.heap.size, 0, none⟩) m m) (mapI (l.take j) m) ∧ Below w.heap.size w wr) (fun _ i _ => l.length - (intOf i).toNat)
      case atStart => exact ⟨0, by omega, rfl, HO1.out, HB1.out⟩
      case round =>
        obtain ⟨j, hj, rfl, hown, hb⟩ := hrel
        have HO := Lib.hid hown; clear hown
        have HB := Lib.hid hb; clear hb
        by_cases hlt : j < l.length
        · obtain ⟨ad, rfl, _, hc⟩ := (H1.out.rd.below HB.out) (by omega)
          have hck := hc j hlt
          have HC := Lib.hid hc; clear hc
          have hx := HS.out.1 (l.getD j 0) (by rw [List.getD, List.getElem?_eq_getElem hlt]; exact List.getElem_mem hlt)
          obtain ⟨q, hq⟩ : ∃ q : Nat, l.getD j 0 = (q : Int) + 1 := ⟨(l.getD j 0).toNat - 1, by omega⟩
          have hqm : q / 8 < m := by have := HMI.out; omega
          obtain ⟨t1, t2, t3⟩ := mapI_step l hlt hq hqm HS.out.2 fun x hx => (HS.out.1 x hx).1
          have hcell := (HO.out.at8 (mapI_len _ _) hqm)
          rw [mapI_at _ _ _ hqm] at hcell
          obtain ⟨hc1, hc2⟩ := hcell
          have hy : byteOf (l.take j) (q / 8) < 256 := Nat.lt_of_le_of_lt Nat.left_le_or t3
          have hor := Lib.hid (or_at (byteOf (l.take j) (q / 8)) (q % 8) hy (by omega))
          have HT := Lib.hid t1; clear t1 t2 t3
          rw [hq] at hck hx
          have HQ := Lib.hid hq; clear hq
          generalize byteOf (l.take j) (q / 8) = y at *
          have j1 : (0 : Int) ≤ (q : Int) / 8 := by omega
          have j2 : (q : Int) / 8 < m := by omega
          have j3 : (0 : Int) ≤ (q : Int) % 8 := by omega
          have j4 : (q : Int) % 8 < 8 := by omega
          go_wp2
          go_region
          all_goals (rw [hor.out]; go_wp2_with fail; go_roundw)
          case rel => exact ⟨j + 1, by omega, by go_num, ((HO.out.store8 (mapI_len _ _)).dr ⟨1, rfl⟩).of_eq HT.out.symm, Below.drew (HB.out.setCell (Nat.le_refl _) _)⟩
          case measure => simp [intOf]; omega
        · have hjl : j = l.length := by omega
          have HJ := Lib.hid hjl; clear hjl
          go_wp2
          go_ret2
          exact Own.bres rfl (HO.out.of_eq (by rw [HJ.out, List.take_length])) HB.out
end Go.Proofs.Ytoldjpnkgdhpkaa
