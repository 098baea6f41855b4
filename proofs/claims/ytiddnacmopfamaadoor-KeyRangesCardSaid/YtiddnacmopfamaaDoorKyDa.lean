/- The text of a key of a text, read by both. -/
import Derived.Test.YtiddnacmopfamaaDoorKyD
import Derived.Test.YtiddnacmopfamaaDoorKyL
namespace Go.Proofs.YtiddnacmopfamaaDoor
open Go.RowKit
set_option linter.unusedVariables false
set_option linter.unusedSimpArgs false
set_option maxRecDepth 40000

/-- A value in cells that may be written. -/
def VW (w : World) (g : Nat) (k n : Int) (s : ByteArray) : Prop := VCell w g k n s ∧ w.frozen? ⟨g, 0, none⟩ = false ∧ w.frozen? ⟨g, 1, none⟩ = false ∧ w.frozen? ⟨g, 2, none⟩ = false
theorem VW.below {w w' : World} {g B : Nat} {k n : Int} {s : ByteArray} (h : VW w g k n s) (hb : Below B w w') (hg : g < B) : VW w' g k n s :=
  ⟨h.1.below hb hg, (hb.frozen (p := ⟨g, 0, none⟩) hg).trans h.2.1, (hb.frozen (p := ⟨g, 1, none⟩) hg).trans h.2.2.1, (hb.frozen (p := ⟨g, 2, none⟩) hg).trans h.2.2.2⟩
theorem VW.new (w : World) (k n : Int) (s : ByteArray) (t : TypeId) : VW (w.alloc (.cells #[.int .i64 k, .int .i64 n, .string s] t)) w.heap.size k n s := ⟨VCell.new w k n s t, by simp, by simp, by simp⟩

def txO (l : List UInt8) : Option (Int × Int × ByteArray × Nat) := match compT [] 1 (decT (l.drop 1)) with
  | some x => if x.1.length ≤ 48 then some (4, 0, BA x.1, x.2) else none
  | none => none
def txF (o : Option (List UInt8 × Nat)) : Option (Int × Int × ByteArray × Nat) := match o with
  | some x => if x.1.length ≤ 48 then some (4, 0, BA x.1, x.2) else none
  | none => none
theorem txO_eq (l : List UInt8) : txO l = txF (compT [] 1 (decT (l.drop 1))) := rfl
def DecR (w : World) (o : Option (Int × Int × ByteArray × Nat)) (e : Ending) (w' : World) : Prop := ∃ (k n : Int) (t : ByteArray) (m : Nat) (b : Bool), e = .returned (.tuple #[vv k n t, .int .i64 m, .bool b]) ∧ Below w.heap.size w w' ∧ ((b = true ∧ o = some (k, n, t, m)) ∨ (b = false ∧ o = none))
def OneR (w : World) (o : Option (Int × Int × ByteArray × Nat)) (e : Ending) (w' : World) : Prop := ∃ (k n : Int) (t : ByteArray) (m : Nat), e = .returned (.tuple #[vv k n t, .int .i64 m]) ∧ Below w.heap.size w w' ∧ ((0 < m ∧ o = some (k, n, t, m)) ∨ (m = 0 ∧ o = none))
theorem u8z {u : UInt8} (h : u = 0) : ((u.toNat : Int) != 0) = false := by subst h; rfl
theorem u8nz {u : UInt8} (h : u ≠ 0) : ((u.toNat : Int) != 0) = true := by
  rw [bne_iff_ne]
  intro e
  exact h (UInt8.toNat_inj.1 (by have : (0 : UInt8).toNat = 0 := rfl; omega))
theorem eq1 {u : UInt8} (h : u = 1) : ((u.toNat : Int) == 1) = true := by subst h; rfl

set_option maxHeartbeats 8000000 in
theorem decodeText_any (s : ByteArray) (w : World) (hs : s.size ≤ 200000) :
    Calls Tryd.prog 77 #[.string s] w (DecR w (txO s.data.toList)) := by
  have hl : s.data.toList.length = s.size := rfl
  have hvw := VW.new w 0 0 nos 23
  have hb0 : Below w.heap.size w (w.alloc (.cells #[.int .i64 0, .int .i64 0, .string nos] 23)) := (Below.refl _ _).alloc (Nat.le_refl _) _
  have hz0 : (w.alloc (.cells #[.int .i64 0, .int .i64 0, .string nos] 23)).heap.size = w.heap.size + 1 := by simp
  have HR : Hid (txF (compT [] 1 (decT (s.data.toList.drop 1))) = txO s.data.toList) := Lib.hid rfl
  obtain ⟨R, hR⟩ : ∃ R, R = compT [] 1 (decT (s.data.toList.drop 1)) := ⟨_, rfl⟩
  rw [← hR] at HR
  have HC0 : Hid (compT [] 1 (decT (s.data.toList.drop 1)) = R) := Lib.hid hR.symm
  clear hR
  generalize txO s.data.toList = o at *
  go_enter Tryd.func77, Tryd.ntmps77
  go_wp2_with fail
  rw [show (⟨#[]⟩ : ByteArray) = nos from rfl] at *
  generalize w.alloc (.cells #[.int .i64 0, .int .i64 0, .string nos] 23) = wb at *
  have HVW := Lib.hid hvw; clear hvw
  have HB0 := Lib.hid hb0; clear hb0
  have HZ0 := Lib.hid hz0
  have HOW0 : Hid (Own wb (w.heap.size + 1) 5 .u8 (.slice none 0 0) (bI [])) := Lib.hid (by simpa [bI] using Own.nil _ _ _ _)
  have HBB : Hid (Below (w.heap.size + 1) wb wb) := Lib.hid (Below.refl _ _)
  clear hz0
  go_loopw [5, 6] (fun v t wr => ∃ (i : Nat) (acc : List UInt8), 1 ≤ i ∧ i ≤ s.data.toList.length + 1 ∧ acc.length ≤ i ∧ t = .int .i64 i ∧ Hid (compT acc i (decT (s.data.toList.drop i)) = R) ∧ Own wr (w.heap.size + 1) 5 .u8 v (bI acc) ∧ Below (w.heap.size + 1) wb wr) (fun _ t _ => s.size + 2 - (intOf t).toNat)
  case atStart => exact ⟨1, [], by omega, by omega, by simp, rfl, HC0, HOW0.out, HBB.out⟩
  case round =>
    obtain ⟨i, acc, hi1, hi2, hal, rfl, HC, hown, hbel⟩ := hrel
    have HB := Lib.hid hbel; clear hbel
    have HBW : Hid (Below w.heap.size w wr) := Lib.hid (HB0.out.trans (HB.out.mono (by omega)))
    obtain ⟨⟨c0, c1, c2, _⟩, f0, f1, f2⟩ := HVW.out.below HB.out (by omega)
    have hlen : (bI acc).length ≤ 300000 := by rw [bI_len]; omega
    obtain ⟨zl, hzl⟩ : ∃ zl, zl = bI acc := ⟨_, rfl⟩
    rw [← hzl] at hown hlen
    have HZL := Lib.hid hzl; clear hzl
    have HLE := Lib.hid hlen; clear hlen
    have hcv := conv_own hown
    have hzs : strOfNums zl = BA acc := by rw [HZL.out, strOf_bI]
    rw [hzs] at hcv
    clear hzs
    obtain ⟨A, cp, rfl⟩ := len_own hown
    have HO := Lib.hid hown; clear hown
    have hsz1 : w.heap.size + 1 ≤ wr.heap.size := by have := HB.out.size; have := HZ0.out; omega
    have HSZ1 := Lib.hid hsz1; clear hsz1
    by_cases hlt : i < s.data.toList.length
    · have hks : i < s.size := by omega
      have hks' : (i : Int) < s.size := by omega
      have hat := byte_at s i hks
      have i9 : (i : Int) ≤ 200000 := by omega
      by_cases hu : s.data.toList.getD i 0 = 0
      · have hu' := u8z hu
        by_cases h1 : i + 1 = s.data.toList.length
        · have hB := decT_B (acc := acc) h1
          rw [HC.out] at hB
          have HR2 := Lib.hid hB
          have h1' : ((i : Int) + 1 == (s.size : Int)) = true := by rw [beq_iff_eq]; omega
          generalize s.data.toList.getD i 0 = u at *
          clear hu hB h1 hl
          go_wp2_with fail
          exact bodyPost_ret (v := .tuple #[vv 0 0 nos, .int .i64 0, .bool false]) (by simp [results, Tryd.results77, go_sem, c0, c1, c2]) rfl ⟨0, 0, nos, 0, false, rfl, (((HBW.out.setCell (Nat.le_refl _) _).setCell (Nat.le_refl _) _).setCell (Nat.le_refl _) _), .inr ⟨rfl, by rw [← HR.out, HR2.out]; rfl⟩⟩
        · have h1' : ((i : Int) + 1 == (s.size : Int)) = false := by rw [beq_eq_false_iff_ne]; omega
          have hks2 : i + 1 < s.size := by omega
          have hks2' : (i : Int) + 1 < s.size := by omega
          have hat2 := byte_at s (i + 1) hks2
          have hlt2 : i + 1 < s.data.toList.length := by omega
          by_cases hv0 : s.data.toList.getD (i + 1) 0 = 0
          · have hC := decT_C (acc := acc) hlt2 hu hv0
            rw [HC.out] at hC
            have HR2 := Lib.hid hC
            have hv1 : ¬ (1 : Int) < ((s.data.toList.getD (i + 1) 0).toNat : Int) := by rw [hv0]; decide
            have hv2 : (((s.data.toList.getD (i + 1) 0).toNat : Int) == 1) = false := by rw [hv0]; rfl
            have hv3 : (((s.data.toList.getD (i + 1) 0).toNat : Int) == 0) = true := by rw [hv0]; rfl
            generalize s.data.toList.getD i 0 = u at *
            generalize s.data.toList.getD (i + 1) 0 = v at *
            clear hu hC h1 hl hv0
            by_cases hq : zl.length ≤ 48
            · have hq' : (zl.length : Int) ≤ 48 := by omega
              have HQ : Hid (acc.length ≤ 48) := Lib.hid (by have := hq; rw [HZL.out, bI_len] at this; exact this)
              clear hq
              go_wp2_with fail
              exact bodyPost_ret (v := .tuple #[vv 4 0 (BA acc), .int .i64 ((i + 2 : Nat) : Int), .bool true]) (by simp [results, Tryd.results77, go_sem, c0, c1, c2]; try omega) rfl ⟨4, 0, BA acc, i + 2, true, rfl, (((HBW.out.setCell (Nat.le_refl _) _).setCell (Nat.le_refl _) _).setCell (Nat.le_refl _) _), .inl ⟨rfl, by rw [← HR.out, HR2.out]; exact if_pos HQ.out⟩⟩
            · have hq' : ¬ (zl.length : Int) ≤ 48 := by omega
              have HQ : Hid (¬ acc.length ≤ 48) := Lib.hid (by have := hq; rw [HZL.out, bI_len] at this; exact this)
              clear hq
              go_wp2_with fail
              exact bodyPost_ret (v := .tuple #[vv 4 0 (BA acc), .int .i64 ((i + 2 : Nat) : Int), .bool false]) (by simp [results, Tryd.results77, go_sem, c0, c1, c2]; try omega) rfl ⟨4, 0, BA acc, i + 2, false, rfl, (((HBW.out.setCell (Nat.le_refl _) _).setCell (Nat.le_refl _) _).setCell (Nat.le_refl _) _), .inr ⟨rfl, by rw [← HR.out, HR2.out]; exact if_neg HQ.out⟩⟩
          · by_cases hv1 : s.data.toList.getD (i + 1) 0 = 1
            · have hD := decT_D (acc := acc) hlt2 hu hv1
              rw [HC.out] at hD
              have HD := Lib.hid hD.symm
              have hv5 : ¬ (1 : Int) < ((s.data.toList.getD (i + 1) 0).toNat : Int) := by rw [hv1]; decide
              have hv6 := eq1 hv1
              have hv7 : (((s.data.toList.getD (i + 1) 0).toNat : Int) == 0) = false := by rw [hv1]; rfl
              generalize s.data.toList.getD i 0 = u at *
              generalize s.data.toList.getD (i + 1) 0 = v at *
              clear hu hD h1 hl hv0 hv1
              go_wp2_with (at_builtin; refine app_byte rfl (.tmp 50) _ rfl (w.heap.size + 1) _ _ 0 rfl (HO.out.alloc _) ⟨wr.heap.size, 0, none⟩ 1 rfl (new_cell _ _ _) (by have := HLE.out; omega) (size_alloc HSZ1.out _) ?_; intro v3 w3 ho3 hb3 _; have HO3 := Lib.hid ho3; have HB3 := Lib.hid ((HB.out.alloc HSZ1.out _).trans hb3); clear ho3 hb3)
              go_roundw
              case rel => exact ⟨i + 2, acc ++ [0], by omega, by omega, by simp; omega, by go_num, HD, HO3.out.of_eq (by rw [HZL.out, bI_app]; rfl), HB3.out⟩
              case measure => simp [intOf]; omega
            · have hvn : 1 < (s.data.toList.getD (i + 1) 0).toNat := by
                rcases Nat.lt_or_ge 1 (s.data.toList.getD (i + 1) 0).toNat with q | q
                · exact q
                · exfalso
                  rcases (show (s.data.toList.getD (i + 1) 0).toNat = 0 ∨ (s.data.toList.getD (i + 1) 0).toNat = 1 by omega) with e | e
                  · exact hv0 (UInt8.toNat_inj.1 e)
                  · exact hv1 (UInt8.toNat_inj.1 e)
              have hE := decT_E (acc := acc) hlt2 hu hvn
              rw [HC.out] at hE
              have HR2 := Lib.hid hE
              have hv5 : (1 : Int) < ((s.data.toList.getD (i + 1) 0).toNat : Int) := by omega
              generalize s.data.toList.getD i 0 = u at *
              generalize s.data.toList.getD (i + 1) 0 = v at *
              clear hu hE h1 hl hv0 hv1 hvn
              go_wp2_with fail
              exact bodyPost_ret (v := .tuple #[vv 0 0 nos, .int .i64 0, .bool false]) (by simp [results, Tryd.results77, go_sem, c0, c1, c2]) rfl ⟨0, 0, nos, 0, false, rfl, (((HBW.out.setCell (Nat.le_refl _) _).setCell (Nat.le_refl _) _).setCell (Nat.le_refl _) _), .inr ⟨rfl, by rw [← HR.out, HR2.out]; rfl⟩⟩
      · have hA := decT_A (acc := acc) hlt hu
        rw [HC.out] at hA
        have HA := Lib.hid hA.symm
        have hu' := u8nz hu
        generalize s.data.toList.getD i 0 = u at *
        clear hu hA hl
        go_wp2_with (at_builtin; refine app_byte rfl (.tmp 17) _ rfl (w.heap.size + 1) _ _ (u.toNat : Int) rfl (HO.out.alloc _) ⟨wr.heap.size, 0, none⟩ 1 rfl (new_cell _ _ _) (by have := HLE.out; omega) (size_alloc HSZ1.out _) ?_; intro v3 w3 ho3 hb3 _; have HO3 := Lib.hid ho3; have HB3 := Lib.hid ((HB.out.alloc HSZ1.out _).trans hb3); clear ho3 hb3)
        go_roundw
        case rel => exact ⟨i + 1, acc ++ [u], by omega, by omega, by simp; omega, by go_num, HA, HO3.out.of_eq (by rw [HZL.out, bI_app]; rfl), HB3.out⟩
        case measure => simp [intOf]; omega
    · have hF := decT_F (acc := acc) (l := s.data.toList) (i := i) (by omega)
      rw [HC.out] at hF
      have HR2 := Lib.hid hF
      have i2 : ¬ (i : Int) < s.size := by omega
      clear hF hlt hl
      go_wp2_with fail
      exact bodyPost_ret (v := .tuple #[vv 0 0 nos, .int .i64 0, .bool false]) (by simp [results, Tryd.results77, go_sem, c0, c1, c2]) rfl ⟨0, 0, nos, 0, false, rfl, (((HBW.out.setCell (Nat.le_refl _) _).setCell (Nat.le_refl _) _).setCell (Nat.le_refl _) _), .inr ⟨rfl, by rw [← HR.out, HR2.out]; rfl⟩⟩
theorem txF_big {acc : List UInt8} {i : Nat} {o : Option (List UInt8 × Nat)} (h : 48 < acc.length) : txF (compT acc i o) = none := by
  cases o with
  | none => rfl
  | some x =>
    show (if (acc ++ x.1).length ≤ 48 then some ((4 : Int), (0 : Int), BA (acc ++ x.1), i + x.2) else none) = none
    rw [if_neg (by rw [List.length_append]; omega)]

set_option maxHeartbeats 8000000 in
theorem refText_any (s : ByteArray) (w : World) (hs : s.size ≤ 200000) :
    Calls Tryd.prog 78 #[.string s] w (OneR w (txO s.data.toList)) := by
  have hl : s.data.toList.length = s.size := rfl
  have hvw := VW.new w 0 0 nos 23
  have hb0 : Below w.heap.size w (w.alloc (.cells #[.int .i64 0, .int .i64 0, .string nos] 23)) := (Below.refl _ _).alloc (Nat.le_refl _) _
  have hz0 : (w.alloc (.cells #[.int .i64 0, .int .i64 0, .string nos] 23)).heap.size = w.heap.size + 1 := by simp
  have HR : Hid (txF (compT [] 1 (decT (s.data.toList.drop 1))) = txO s.data.toList) := Lib.hid rfl
  obtain ⟨R, hR⟩ : ∃ R, R = compT [] 1 (decT (s.data.toList.drop 1)) := ⟨_, rfl⟩
  rw [← hR] at HR
  have HC0 : Hid (compT [] 1 (decT (s.data.toList.drop 1)) = R) := Lib.hid hR.symm
  clear hR
  generalize txO s.data.toList = o at *
  go_enter Tryd.func78, Tryd.ntmps78
  go_wp2_with fail
  rw [show (⟨#[]⟩ : ByteArray) = nos from rfl] at *
  generalize w.alloc (.cells #[.int .i64 0, .int .i64 0, .string nos] 23) = wb at *
  have HVW := Lib.hid hvw; clear hvw
  have HB0 := Lib.hid hb0; clear hb0
  have HZ0 := Lib.hid hz0
  have HOW0 : Hid (Own wb (w.heap.size + 1) 5 .u8 (.slice none 0 0) (bI [])) := Lib.hid (by simpa [bI] using Own.nil _ _ _ _)
  have HBB : Hid (Below (w.heap.size + 1) wb wb) := Lib.hid (Below.refl _ _)
  clear hz0
  go_loopw [4, 5] (fun v t wr => ∃ (i : Nat) (acc : List UInt8), 1 ≤ i ∧ i ≤ s.data.toList.length + 1 ∧ acc.length ≤ i ∧ t = .int .i64 i ∧ Hid (compT acc i (decT (s.data.toList.drop i)) = R) ∧ Own wr (w.heap.size + 1) 5 .u8 v (bI acc) ∧ Below (w.heap.size + 1) wb wr) (fun _ t _ => s.size + 2 - (intOf t).toNat)
  case atStart => exact ⟨1, [], by omega, by omega, by simp, rfl, HC0, HOW0.out, HBB.out⟩
  case round =>
    obtain ⟨i, acc, hi1, hi2, hal, rfl, HC, hown, hbel⟩ := hrel
    have HB := Lib.hid hbel; clear hbel
    have HBW : Hid (Below w.heap.size w wr) := Lib.hid (HB0.out.trans (HB.out.mono (by omega)))
    obtain ⟨⟨c0, c1, c2, _⟩, f0, f1, f2⟩ := HVW.out.below HB.out (by omega)
    have hlen : (bI acc).length ≤ 300000 := by rw [bI_len]; omega
    obtain ⟨zl, hzl⟩ : ∃ zl, zl = bI acc := ⟨_, rfl⟩
    rw [← hzl] at hown hlen
    have HZL := Lib.hid hzl; clear hzl
    have HLE := Lib.hid hlen; clear hlen
    have hcv := conv_own hown
    have hzs : strOfNums zl = BA acc := by rw [HZL.out, strOf_bI]
    rw [hzs] at hcv
    clear hzs
    obtain ⟨A, cp, rfl⟩ := len_own hown
    have HO := Lib.hid hown; clear hown
    have hsz1 : w.heap.size + 1 ≤ wr.heap.size := by have := HB.out.size; have := HZ0.out; omega
    have HSZ1 := Lib.hid hsz1; clear hsz1
    by_cases hlt : i < s.data.toList.length
    · have hks : i < s.size := by omega
      have hks' : (i : Int) < s.size := by omega
      have hat := byte_at s i hks
      have i9 : (i : Int) ≤ 200000 := by omega
      by_cases hu : s.data.toList.getD i 0 = 0
      · have hu' := u8z hu
        by_cases h1 : i + 1 = s.data.toList.length
        · have hB := decT_B (acc := acc) h1
          rw [HC.out] at hB
          have HR2 := Lib.hid hB
          have h1' : ((i : Int) + 1 == (s.size : Int)) = true := by rw [beq_iff_eq]; omega
          generalize s.data.toList.getD i 0 = u at *
          clear hu hB h1 hl
          go_wp2_with fail
          exact bodyPost_ret (v := .tuple #[vv 0 0 nos, .int .i64 0]) (by simp [results, Tryd.results78, go_sem, c0, c1, c2]) rfl ⟨0, 0, nos, 0, rfl, (((HBW.out.setCell (Nat.le_refl _) _).setCell (Nat.le_refl _) _).setCell (Nat.le_refl _) _), .inr ⟨rfl, by rw [← HR.out, HR2.out]; rfl⟩⟩
        · have h1' : ((i : Int) + 1 == (s.size : Int)) = false := by rw [beq_eq_false_iff_ne]; omega
          have hks2 : i + 1 < s.size := by omega
          have hks2' : (i : Int) + 1 < s.size := by omega
          have hat2 := byte_at s (i + 1) hks2
          have hlt2 : i + 1 < s.data.toList.length := by omega
          by_cases hv0 : s.data.toList.getD (i + 1) 0 = 0
          · have hC := decT_C (acc := acc) hlt2 hu hv0
            rw [HC.out] at hC
            have HR2 := Lib.hid hC
            have hv1 : ¬ (1 : Int) < ((s.data.toList.getD (i + 1) 0).toNat : Int) := by rw [hv0]; decide
            have hv2 : (((s.data.toList.getD (i + 1) 0).toNat : Int) == 1) = false := by rw [hv0]; rfl
            have hv3 : (((s.data.toList.getD (i + 1) 0).toNat : Int) == 0) = true := by rw [hv0]; rfl
            generalize s.data.toList.getD i 0 = u at *
            generalize s.data.toList.getD (i + 1) 0 = v at *
            clear hu hC h1 hl hv0
            by_cases hq : 48 < zl.length
            · have hq' : (48 : Int) < (zl.length : Int) := by omega
              have HQ : Hid (48 < acc.length) := Lib.hid (by have := hq; rw [HZL.out, bI_len] at this; omega)
              clear hq
              go_wp2_with fail
              exact bodyPost_ret (v := .tuple #[vv 0 0 nos, .int .i64 0]) (by simp [results, Tryd.results78, go_sem, c0, c1, c2]) rfl ⟨0, 0, nos, 0, rfl, (((HBW.out.setCell (Nat.le_refl _) _).setCell (Nat.le_refl _) _).setCell (Nat.le_refl _) _), .inr ⟨rfl, by rw [← HR.out, HR2.out]; exact (if_neg (by have := HQ.out; simp only; omega))⟩⟩
            · have hq' : ¬ (48 : Int) < (zl.length : Int) := by omega
              have HQ : Hid (acc.length ≤ 48) := Lib.hid (by have := hq; rw [HZL.out, bI_len] at this; omega)
              clear hq
              go_wp2_with fail
              refine (Text_any _ _).mono ?_
              rintro e w4 ⟨rfl, hb4⟩
              have HB4 := Lib.hid (HBW.out.trans (hb4.mono HBW.out.size))
              have hvw4 := (HVW.out.below HB.out (by omega)).below hb4 (by have := HB.out.size; have := HZ0.out; omega)
              clear c0 c1 c2 f0 f1 f2 hb4
              obtain ⟨⟨c0, c1, c2, _⟩, f0, f1, f2⟩ := hvw4
              go_wp2_with fail
              exact bodyPost_ret (v := .tuple #[vv 4 0 (BA acc), .int .i64 ((i + 2 : Nat) : Int)]) (by simp [results, Tryd.results78, go_sem, c0, c1, c2]; try omega) rfl ⟨4, 0, BA acc, i + 2, rfl, (((HB4.out.setCell (Nat.le_refl _) _).setCell (Nat.le_refl _) _).setCell (Nat.le_refl _) _), .inl ⟨by omega, by rw [← HR.out, HR2.out]; exact if_pos HQ.out⟩⟩
          · by_cases hv1 : s.data.toList.getD (i + 1) 0 = 1
            · have hD := decT_D (acc := acc) hlt2 hu hv1
              rw [HC.out] at hD
              have HD := Lib.hid hD.symm
              have hv5 : ¬ (1 : Int) < ((s.data.toList.getD (i + 1) 0).toNat : Int) := by rw [hv1]; decide
              have hv6 := eq1 hv1
              have hv7 : (((s.data.toList.getD (i + 1) 0).toNat : Int) == 0) = false := by rw [hv1]; rfl
              generalize s.data.toList.getD i 0 = u at *
              generalize s.data.toList.getD (i + 1) 0 = v at *
              clear hu hD h1 hl hv0 hv1
              by_cases hq : 48 < zl.length
              · have hq' : (48 : Int) < (zl.length : Int) := by omega
                have HQ : Hid (48 < acc.length) := Lib.hid (by have := hq; rw [HZL.out, bI_len] at this; omega)
                clear hq
                go_wp2_with fail
                exact bodyPost_ret (v := .tuple #[vv 0 0 nos, .int .i64 0]) (by simp [results, Tryd.results78, go_sem, c0, c1, c2]) rfl ⟨0, 0, nos, 0, rfl, (((HBW.out.setCell (Nat.le_refl _) _).setCell (Nat.le_refl _) _).setCell (Nat.le_refl _) _), .inr ⟨rfl, by rw [← HR.out, ← HD.out]; exact (txF_big (by have := HQ.out; simp; omega))⟩⟩
              · have hq' : ¬ (48 : Int) < (zl.length : Int) := by omega
                have HQ : Hid (acc.length ≤ 48) := Lib.hid (by have := hq; rw [HZL.out, bI_len] at this; omega)
                clear hq
                go_wp2_with (at_builtin; refine app_byte rfl (.tmp 51) _ rfl (w.heap.size + 1) _ _ 0 rfl (HO.out.alloc _) ⟨wr.heap.size, 0, none⟩ 1 rfl (new_cell _ _ _) (by have := HLE.out; omega) (size_alloc HSZ1.out _) ?_; intro v3 w3 ho3 hb3 _; have HO3 := Lib.hid ho3; have HB3 := Lib.hid ((HB.out.alloc HSZ1.out _).trans hb3); clear ho3 hb3)
                go_roundw
                case rel => exact ⟨i + 2, acc ++ [0], by omega, by omega, by simp; omega, by go_num, HD, HO3.out.of_eq (by rw [HZL.out, bI_app]; rfl), HB3.out⟩
                case measure => simp [intOf]; omega
            · have hvn : 1 < (s.data.toList.getD (i + 1) 0).toNat := by
                rcases Nat.lt_or_ge 1 (s.data.toList.getD (i + 1) 0).toNat with q | q
                · exact q
                · exfalso
                  rcases (show (s.data.toList.getD (i + 1) 0).toNat = 0 ∨ (s.data.toList.getD (i + 1) 0).toNat = 1 by omega) with e | e
                  · exact hv0 (UInt8.toNat_inj.1 e)
                  · exact hv1 (UInt8.toNat_inj.1 e)
              have hE := decT_E (acc := acc) hlt2 hu hvn
              rw [HC.out] at hE
              have HR2 := Lib.hid hE
              have hv5 : (1 : Int) < ((s.data.toList.getD (i + 1) 0).toNat : Int) := by omega
              generalize s.data.toList.getD i 0 = u at *
              generalize s.data.toList.getD (i + 1) 0 = v at *
              clear hu hE h1 hl hv0 hv1 hvn
              go_wp2_with fail
              exact bodyPost_ret (v := .tuple #[vv 0 0 nos, .int .i64 0]) (by simp [results, Tryd.results78, go_sem, c0, c1, c2]) rfl ⟨0, 0, nos, 0, rfl, (((HBW.out.setCell (Nat.le_refl _) _).setCell (Nat.le_refl _) _).setCell (Nat.le_refl _) _), .inr ⟨rfl, by rw [← HR.out, HR2.out]; rfl⟩⟩
      · have hA := decT_A (acc := acc) hlt hu
        rw [HC.out] at hA
        have HA := Lib.hid hA.symm
        have hu' := u8nz hu
        generalize s.data.toList.getD i 0 = u at *
        clear hu hA hl
        go_wp2_with (at_builtin; refine app_byte rfl (.tmp 16) _ rfl (w.heap.size + 1) _ _ (u.toNat : Int) rfl (HO.out.alloc _) ⟨wr.heap.size, 0, none⟩ 1 rfl (new_cell _ _ _) (by have := HLE.out; omega) (size_alloc HSZ1.out _) ?_; intro v3 w3 ho3 hb3 _; have HO3 := Lib.hid ho3; have HB3 := Lib.hid ((HB.out.alloc HSZ1.out _).trans hb3); clear ho3 hb3)
        go_roundw
        case rel => exact ⟨i + 1, acc ++ [u], by omega, by omega, by simp; omega, by go_num, HA, HO3.out.of_eq (by rw [HZL.out, bI_app]; rfl), HB3.out⟩
        case measure => simp [intOf]; omega
    · have hF := decT_F (acc := acc) (l := s.data.toList) (i := i) (by omega)
      rw [HC.out] at hF
      have HR2 := Lib.hid hF
      have i2 : ¬ (i : Int) < s.size := by omega
      clear hF hlt hl
      go_wp2_with fail
      exact bodyPost_ret (v := .tuple #[vv 0 0 nos, .int .i64 0]) (by simp [results, Tryd.results78, go_sem, c0, c1, c2]) rfl ⟨0, 0, nos, 0, rfl, (((HBW.out.setCell (Nat.le_refl _) _).setCell (Nat.le_refl _) _).setCell (Nat.le_refl _) _), .inr ⟨rfl, by rw [← HR.out, HR2.out]; rfl⟩⟩
end Go.Proofs.YtiddnacmopfamaaDoor
