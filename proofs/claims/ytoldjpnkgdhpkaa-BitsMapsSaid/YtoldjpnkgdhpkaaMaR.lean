/- Map of the reference. -/
import Derived.Test.YtoldjpnkgdhpkaaMa
import Derived.Test.YtoldjpnkgdhpkaaUR
namespace Go.Proofs.Ytoldjpnkgdhpkaa
open Go.RowKit
set_option linter.unusedVariables false
set_option linter.unusedSimpArgs false

theorem mapB_isS {l : List Int} {n : Int} (h : mapB l n = true) : IsS l := by
  simp [mapB, cntB] at h
  have := (isSetB_iff n l).1 h.2
  exact ⟨fun x hx => by have := this.1 x hx; omega, this.2⟩

theorem plus_at (y k : Nat) (h : y + 2 ^ k < 256) : ((y : Int) + (2 : Int) ^ k) % 256 = ((y + 2 ^ k : Nat) : Int) := by
  have e : (y : Int) + (2 : Int) ^ k = ((y + 2 ^ k : Nat) : Int) := by push_cast; rfl
  rw [e]
  clear e
  generalize y + 2 ^ k = z at *
  omega

set_option maxHeartbeats 4000000 in
set_option maxRecDepth 20000 in
theorem refMap_any (A : Option Addr) (c : Nat) (l : List Int) (n : Int) (w : World) (h1 : Lk w w.heap.size A l c) :
    Calls Try.prog 38 #[.slice A l.length c, .int .i64 n] w (BRes w (mpL l n) (mpN l n)) := by
  have hl3 := h1.len
  have H1 := Lib.hid h1; clear h1
  cases hs : isSetB 300 l
  · have hb : mapB l n = false := by
      cases hb : mapB l n
      · rfl
      · rw [(IsS.iff l).2 (mapB_isS hb)] at hs; cases hs
    have e1 : mpN l n = 1 := by simp [mpN, hb]
    have e2 : mpL l n = [] := by simp [mpL, hb]
    rw [e1, e2]
    clear e1 e2 hb
    go_enter Try.func38, Try.ntmps38
    go_wp2_with fail
    refine (refIsSet_any A c l _ _ H1.out.rd H1.out.i64 (by omega)).mono ?_
    rintro e w' ⟨rfl, hd⟩
    have HD := Lib.hid hd; clear hd
    rw [hs]
    go_wp2_with fail
    go_ret2
    exact .err rfl (Dr.below (Below.refl _ _) HD.out)
  · have hbel : belB l n = mapB l n := belB_set ((IsS.iff l).1 hs)
    cases hb : mapB l n
    · have e1 : mpN l n = 1 := by simp [mpN, hb]
      have e2 : mpL l n = [] := by simp [mpL, hb]
      rw [e1, e2]
      clear e1 e2
      go_enter Try.func38, Try.ntmps38
      go_wp2_with fail
      refine (refIsSet_any A c l _ _ H1.out.rd H1.out.i64 (by omega)).mono ?_
      rintro e w' ⟨rfl, hd⟩
      have HD := Lib.hid hd; clear hd
      rw [hs]
      go_wp2_with fail
      refine (isBelow_any A c l n _ _ (H1.out.rd.dr HD.out) (by omega)).mono ?_
      rintro e w2 ⟨rfl, rfl⟩
      rw [hbel, hb]
      go_wp2_with fail
      go_ret2
      exact .err rfl (Dr.below (Below.refl _ _) HD.out)
    · have hbb : (cntB n && isSetB n l) = true := hb
      rw [Bool.and_eq_true] at hbb
      obtain ⟨hcn, hsn⟩ := hbb
      obtain ⟨n, rfl, hn⟩ : ∃ N : Nat, n = N ∧ N ≤ 300 := by simp [cntB] at hcn; exact ⟨n.toNat, by omega, by omega⟩
      have hS := (isSetB_iff n l).1 hsn
      obtain ⟨m, hm⟩ : ∃ m, m = (n + 7) / 8 := ⟨_, rfl⟩
      have e1 : mpN l n = 0 := by simp [mpN, hb]
      have e2 : mpL l n = mapI l m := by simp [mpL, hb, hm]
      rw [e1, e2]
      clear e1 e2
      have HS := Lib.hid hS; clear hS
      have hm38 : m ≤ 38 := by omega
      have HMI : Hid (((n : Int) + 7) / 8 = (m : Int)) := Lib.hid (by omega)
      have HBB := Lib.hid (hbel.trans hb)
      have HSS := Lib.hid hs
      clear hcn hsn hm hb hbel hs
      go_enter Try.func38, Try.ntmps38
      go_wp2_with fail
      refine (refIsSet_any A c l _ _ H1.out.rd H1.out.i64 (by omega)).mono ?_
      rintro e w0 ⟨rfl, hd⟩
      have hz : w.heap.size ≤ w0.heap.size := by obtain ⟨_, rfl⟩ := hd; simp
      have HBW := Lib.hid (Dr.below (Below.refl w.heap.size w) hd)
      have HR := Lib.hid (H1.out.rd.dr hd); clear hd
      rw [HSS.out]
      go_wp2_with fail
      refine (isBelow_any A c l n _ _ HR.out (by omega)).mono ?_
      rintro e w2 ⟨rfl, rfl⟩
      rw [HBB.out]
      obtain ⟨i0, hi0, hz0, hz1, hz2⟩ := info_parts info5
      go_wp2_with (at_make; go_loud (refine wpList_make_full _ rfl _ _ _ rfl w0.heap.size 5 i0 (.int .u8 0) 1 Try.underlying52 hi0 hz0 hz1 .i64 .i64 _ _ m rfl rfl HMI.out HMI.out (by rw [hz2]; omega) (by unfold maxLen; omega) (Nat.le_refl _) ?_; intro w1 ho1 hg1; have HO1 := Lib.hid (own_zeros ho1); have HB1 := Lib.hid ((Below.refl w0.heap.size w0).grown hg1 (Nat.le_refl _) (by intro g hg; cases hg)); clear ho1 hg1 hi0 hz0 hz1 hz2))
      go_loopw [7, 8] (fun i v wr => ∃ j : Nat, j ≤ l.length ∧ i = .int .i64 j ∧ Own wr w0.heap.size 5 .u8 (.slice (some ⟨w0.heap.size, 0, none⟩) m m) (mapI (l.take j) m) ∧ Below w0.heap.size w0 wr) (fun i _ _ => l.length - (intOf i).toNat)
      case atStart => exact ⟨0, by omega, rfl, HO1.out, HB1.out⟩
      case round =>
        obtain ⟨j, hj, rfl, hown, hb⟩ := hrel
        have HO := Lib.hid hown; clear hown
        have HB := Lib.hid hb; clear hb
        by_cases hlt : j < l.length
        · obtain ⟨ad, rfl, _, hc⟩ := (HR.out.below (HB.out.mono hz)) (by omega)
          have hck := hc j hlt
          have HC := Lib.hid hc; clear hc
          have hx := HS.out.1 (l.getD j 0) (by rw [List.getD, List.getElem?_eq_getElem hlt]; exact List.getElem_mem hlt)
          obtain ⟨q, hq⟩ : ∃ q : Nat, l.getD j 0 = (q : Int) + 1 := ⟨(l.getD j 0).toNat - 1, by omega⟩
          have hqm : q / 8 < m := by have := HMI.out; omega
          obtain ⟨t1, t2, t3⟩ := mapI_step l hlt hq hqm HS.out.2 fun x hx => (HS.out.1 x hx).1
          have hcell := (HO.out.at8 (mapI_len _ _) hqm)
          rw [mapI_at _ _ _ hqm] at hcell
          obtain ⟨hc1, hc2⟩ := hcell
          have hpw := Lib.hid (plus_at (byteOf (l.take j) (q / 8)) (q % 8) (t2 ▸ t3))
          rw [t2] at t1
          have HT := Lib.hid t1; clear t1 t2 t3
          rw [hq] at hck hx
          have HQ := Lib.hid hq; clear hq
          generalize byteOf (l.take j) (q / 8) = y at *
          have j1 : (0 : Int) ≤ (q : Int) / 8 := by omega
          have j2 : (q : Int) / 8 < m := by omega
          have j3 : (0 : Int) ≤ (q : Int) % 8 := by omega
          have j4 : (q : Int) % 8 < 8 := by omega
          go_wp2
          go_region
          all_goals (rw [hpw.out]; go_wp2_with fail; go_roundw)
          case rel => exact ⟨j + 1, by omega, by go_num, ((HO.out.store8 (mapI_len _ _)).dr ⟨1, rfl⟩).of_eq HT.out.symm, Below.drew (HB.out.setCell (Nat.le_refl _) _)⟩
          case measure => simp [intOf]; omega
        · have hjl : j = l.length := by omega
          have HJ := Lib.hid hjl; clear hjl
          go_wp2
          go_ret2
          exact Own.bres rfl ((HO.out.of_eq (by rw [HJ.out, List.take_length])).low hz) (HBW.out.trans (HB.out.mono hz))
end Go.Proofs.Ytoldjpnkgdhpkaa
