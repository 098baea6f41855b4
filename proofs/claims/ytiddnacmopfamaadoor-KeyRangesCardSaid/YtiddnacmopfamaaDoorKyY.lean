/- The ascending key of a value, by the program. -/
import Derived.Test.YtiddnacmopfamaaDoorKyX
namespace Go.Proofs.YtiddnacmopfamaaDoor
open Go.RowKit
set_option linter.unusedVariables false
set_option linter.unusedSimpArgs false
set_option maxRecDepth 40000

def nbS (k : Int) : Nat := if k = 2 then 8 else if k = 3 then 4 else if k = 1 then 1 else 0
def nbA (k : Int) : Int := if k = 2 then 1000000000000000 else 0
theorem nbS_le (k : Int) : nbS k ≤ 8 := by unfold nbS; repeat' split
                                           all_goals omega
set_option maxHeartbeats 1000000 in
theorem numberBytes_any (k : Int) (w : World) : Calls Tryd.prog 76 #[.int .i64 k] w fun e w' => e = .returned (.tuple #[.int .i64 (nbS k), .int .i64 (nbA k)]) ∧ w = w' := by
  by_cases h2 : k = 2
  · subst h2
    go_enter Tryd.func76, Tryd.ntmps76
    go_wp2
    go_ret2
    exact ⟨rfl, rfl⟩
  have h2' : (k == 2) = false := by simpa using h2
  by_cases h3 : k = 3
  · subst h3
    go_enter Tryd.func76, Tryd.ntmps76
    go_wp2
    go_ret2
    exact ⟨rfl, rfl⟩
  have h3' : (k == 3) = false := by simpa using h3
  by_cases h1 : k = 1
  · subst h1
    go_enter Tryd.func76, Tryd.ntmps76
    go_wp2
    go_ret2
    exact ⟨rfl, rfl⟩
  have h1' : (k == 1) = false := by simpa using h1
  have e1 : nbS k = 0 := by simp [nbS, h1, h2, h3]
  have e2 : nbA k = 0 := by simp [nbA, h2]
  rw [e1, e2]
  clear h1 h2 h3 e1 e2
  go_enter Tryd.func76, Tryd.ntmps76
  go_wp2
  go_ret2
  exact ⟨rfl, rfl⟩

theorem conv_own {w : World} {base : Nat} {v : Value} {zs : List Int} (h : Own w base 5 .u8 v zs) : (convert 73 9 v).run Tryd.prog w = .ok (.string (strOfNums zs)) w := by
  obtain ⟨A, c, rfl, _, _, hr⟩ := h.out
  exact conv_bytes hr c
theorem len_own {w : World} {base : Nat} {v : Value} {zs : List Int} (h : Own w base 5 .u8 v zs) : ∃ A c, v = .slice A zs.length c := by
  obtain ⟨A, c, rfl, _, _, hr⟩ := h.out
  exact ⟨A, c, rfl⟩

theorem Own.one (w : World) (base : Nat) (hb : base ≤ w.heap.size) (z : Int) : Own (w.alloc (.cells #[.int .u8 z] 5)) base 5 .u8 (.slice (some ⟨w.heap.size, 0, none⟩) 1 1) [z] :=
  ⟨rfl, .inr ⟨w.heap.size, 1, _, rfl, hb, heap_alloc_new w _, Nat.le_refl _, by unfold maxLen; omega, rfl, rfl⟩⟩
/-- The bytes of the key of a value that is no text. -/
def numL (k : Nat) (n : Int) : List Nat := k :: digs (nbS k) (n + nbA k).toNat
def encS (k n : Int) (s : ByteArray) (p c : Nat) : ByteArray := if k = 4 then BA (4 :: (esc (wei48 p c s) ++ [0, 0])) else SN (numL k.toNat n)
theorem valid_num {k n : Int} {s : ByteArray} (h : vE k n s = 0) (hk : k ≠ 4) : 0 ≤ k ∧ k ≤ 3 ∧ 0 ≤ n + nbA k ∧ n + nbA k ≤ 2000000000000000 ∧ n + nbA k < 256 ^ nbS k ∧ s = nos := by
  unfold vE at h
  split at h
  · omega
  · split at h
    · rename_i h1
      unfold isV at h1
      rw [if_neg hk] at h1
      have he : s.toList.isEmpty = true := by
        cases q : s.toList.isEmpty
        · rw [q] at h1; simp at h1
        · rfl
      rw [he, if_neg (by simp)] at h1
      have hs := bytes_none he
      by_cases h0 : k = 0
      · subst h0
        have hn : n = 0 := by simpa using h1
        subst hn
        exact ⟨by omega, by omega, by decide, by decide, by decide, hs⟩
      rw [if_neg h0] at h1
      by_cases hk1 : k = 1
      · subst hk1
        have hn : n = 0 ∨ n = 1 := by simpa using h1
        rcases hn with rfl | rfl <;> exact ⟨by omega, by omega, by decide, by decide, by decide, hs⟩
      rw [if_neg hk1] at h1
      by_cases hk2 : k = 2
      · subst hk2
        rw [if_pos rfl] at h1
        unfold inB at h1
        have hn : -1000000000000000 ≤ n ∧ n ≤ 1000000000000000 := by simpa using h1
        have e1 : nbA 2 = 1000000000000000 := rfl
        have e2 : (256 : Int) ^ nbS 2 = 18446744073709551616 := by decide
        rw [e1, e2]
        exact ⟨by omega, by omega, by omega, by omega, by omega, hs⟩
      rw [if_neg hk2] at h1
      by_cases hk3 : k = 3
      · subst hk3
        rw [if_pos rfl] at h1
        have hn : 0 ≤ n ∧ n ≤ 3652059 := by simpa using h1
        have e1 : nbA 3 = 0 := rfl
        have e2 : (256 : Int) ^ nbS 3 = 4294967296 := by decide
        rw [e1, e2]
        exact ⟨by omega, by omega, by omega, by omega, by omega, hs⟩
      · rw [if_neg hk3] at h1
        simp at h1
    · omega
theorem shr_nat (X : Int) (j : Nat) (h : 0 ≤ X) : X / 2 ^ (8 * j) % 256 = ((X.toNat / 256 ^ j % 256 : Nat) : Int) := by
  obtain ⟨x, rfl⟩ : ∃ x : Nat, X = x := ⟨X.toNat, by omega⟩
  have e : (2 : Nat) ^ (8 * j) = 256 ^ j := by rw [Nat.pow_mul]
  rw [Int.toNat_natCast, ← e]
  norm_cast
theorem shr_byte (X : Int) (j : Nat) (h : 0 ≤ X) : IntKind.u8.wrap (X / 2 ^ (8 * (j : Int)).toNat) = ((X.toNat / 256 ^ j % 256 : Nat) : Int) := by
  have e1 : (8 * (j : Int)).toNat = 8 * j := by omega
  rw [e1, IntKind.wrap_u8, shr_nat X j h]

set_option maxHeartbeats 4000000 in
theorem encode_num (k n : Int) (s : ByteArray) (p c : Int) (w : World) (hv : vE k n s = 0) (hk : k ≠ 4) :
    Calls Tryd.prog 54 #[vv k n s, .int .i64 p, .int .i64 c] w fun e w' => e = .returned (.string (SN (numL k.toNat n))) ∧ Below w.heap.size w w' := by
  obtain ⟨v1, v2, v3, v4, v5, rfl⟩ := valid_num hv hk
  obtain ⟨q, rfl⟩ : ∃ q : Nat, k = q := ⟨k.toNat, by omega⟩
  have hk' : ((q : Int) == 4) = false := by simpa using hk
  have HN := Lib.hid (fun W => numberBytes_any q W)
  have hS := nbS_le q
  have HNL : Hid (numL (q : Int).toNat n = q :: digs (nbS q) (n + nbA q).toNat) := Lib.hid rfl
  generalize numL (q : Int).toNat n = r at *
  generalize nbS q = z at *
  generalize nbA q = a at *
  obtain ⟨X, hX⟩ : ∃ X, X = n + a := ⟨_, rfl⟩
  rw [← hX] at v3 v4 HNL
  have hwa : wrap64 (n + a) = X := by rw [IntWalk.wrap64_in _ (by omega)]; exact hX.symm
  clear hv hk hX v5
  have hq8 : IntKind.u8.wrap (q : Int) = q := IntWalk.u8_in _ (by omega)
  go_enter Tryd.func54, Tryd.ntmps54
  go_wp2_with fail
  refine (HN.out _).mono ?_
  rintro e w1 ⟨rfl, rfl⟩
  go_wp2_with fail
  have hb0 : Below w.heap.size w (w.alloc (.cells #[.int .i64 q, .int .i64 n, .string nos] 23)) := (Below.refl _ _).alloc (Nat.le_refl _) _
  have hvc := VCell.new w q n nos 23
  have hz0 : (w.alloc (.cells #[.int .i64 q, .int .i64 n, .string nos] 23)).heap.size = w.heap.size + 1 := by simp
  have hown := Own.one (w.alloc (.cells #[.int .i64 q, .int .i64 n, .string nos] 23)) (w.heap.size + 1) (by omega) q
  rw [hz0] at hown
  generalize w.alloc (.cells #[.int .i64 q, .int .i64 n, .string nos] 23) = wb at *
  have HB0 := Lib.hid hb0; clear hb0
  have HVC := Lib.hid hvc; clear hvc
  have HBB : Hid (Below (w.heap.size + 1) wb (wb.alloc (.cells #[.int .u8 q] 5))) := Lib.hid (by rw [← hz0]; exact (Below.refl _ _).alloc (Nat.le_refl _) _)
  generalize wb.alloc (.cells #[.int .u8 q] 5) = wc at *
  have HO0 := Lib.hid hown; clear hown
  have HZ0 := Lib.hid hz0; clear hz0
  go_loopw [7, 10] (fun o i wr => ∃ m : Nat, m ≤ z ∧ i = .int .i64 ((m : Int) - 1) ∧ Own wr (w.heap.size + 1) 5 .u8 o ((q :: digs (z - m) (X.toNat / 256 ^ m)).map Int.ofNat) ∧ Below (w.heap.size + 1) wb wr) (fun _ i _ => (intOf i + 1).toNat)
  case atStart => exact ⟨z, by omega, rfl, HO0.out.of_eq (by rw [Nat.sub_self]; rfl), HBB.out⟩
  case round =>
    obtain ⟨m, hm, rfl, hown, hbel⟩ := hrel
    have HB := Lib.hid hbel; clear hbel
    have hlen : ((q :: digs (z - m) (X.toNat / 256 ^ m)).map Int.ofNat).length ≤ 1000000 := by rw [List.length_map, List.length_cons, digs_len]; omega
    obtain ⟨zl, hzl⟩ : ∃ zl, zl = (q :: digs (z - m) (X.toNat / 256 ^ m)).map Int.ofNat := ⟨_, rfl⟩
    rw [← hzl] at hown hlen
    have HZL := Lib.hid hzl; clear hzl
    obtain ⟨A, cp, rfl⟩ := len_own hown
    have HLE := Lib.hid hlen; clear hlen
    obtain ⟨c0, c1, c2, _⟩ := HVC.out.below HB.out (by have := HVC.out.2.2.2; omega)
    by_cases h0 : m = 0
    · subst h0
      have i1 : ¬ (0 : Int) ≤ ((0 : Nat) : Int) - 1 := by omega
      have hcv := conv_own hown
      have hzl := HZL.out
      rw [Nat.sub_zero, Nat.pow_zero, Nat.div_one, ← HNL.out] at hzl
      have hsn : strOfNums zl = SN r := by rw [hzl]; rfl
      rw [hsn] at hcv
      clear hown c0 c1 c2 hzl hsn
      go_wp2_with fail
      go_ret
      exact ⟨rfl, HB0.out.trans (HB.out.mono (by omega))⟩
    · obtain ⟨j, rfl⟩ : ∃ j, m = j + 1 := ⟨m - 1, by omega⟩
      have HO := Lib.hid hown; clear hown
      have hi : (((j + 1 : Nat) : Int) - 1) = (j : Int) := by omega
      rw [hi]
      have hsn := shr_nat X j v3
      have hds := digs_step (z - (j + 1)) j X.toNat
      rw [show z - (j + 1) + 1 = z - j by omega] at hds
      have hzl := HZL.out
      have HDS := Lib.hid hds; clear hds
      generalize X.toNat / 256 ^ j % 256 = y at *
      generalize digs (z - (j + 1)) (X.toNat / 256 ^ (j + 1)) = dl at *
      have HZ2 := Lib.hid hzl; clear hzl
      have i0 : (0 : Int) ≤ (j : Int) := by omega
      have i8 : 8 * (j : Int) ≤ 64 := by omega
      have i9 : (0 : Int) ≤ 8 * (j : Int) := by omega
      clear h0
      go_wp2_with (at_builtin; refine app_byte rfl _ _ rfl (w.heap.size + 1) _ _ (y : Int) rfl (HO.out.alloc _) ⟨wr.heap.size, 0, none⟩ 1 rfl (new_cell _ _ _) HLE.out (size_alloc (by have := HB.out.size; have := HZ0.out; omega) _) ?_; intro v3' w3 ho3 hb3 _; have HO3 := Lib.hid ho3; have HB3 := Lib.hid ((HB.out.alloc (by have := HB.out.size; have := HZ0.out; omega) _).trans hb3); clear ho3 hb3)
      go_roundw
      case rel => exact ⟨j, by omega, rfl, HO3.out.of_eq (by rw [HDS.out, HZ2.out]; simp), HB3.out⟩
      case measure => simp [intOf]
end Go.Proofs.YtiddnacmopfamaaDoor
