/- Proper of the program: the whole text. -/
import Derived.Test.YtgeikbcfjidgcaaDoorPgZ
namespace Go.Proofs.YtgeikbcfjidgcaaDoor
open Go.RowKit
set_option linter.unusedVariables false
set_option linter.unusedSimpArgs false

set_option maxHeartbeats 4000000 in
theorem mappedP_any (gi gp p : Nat) (s : ByteArray) (w : World) (hs : s.size ≤ 100000) (hp : p < 3) (ht : Tabs w) (h1 : w.cell? ⟨gi, 0, none⟩ = some (.bool false)) (hf : w.frozen? ⟨gi, 0, none⟩ = false) (h2 : w.cell? ⟨gp, 0, none⟩ = some (.int .i64 p))
    (hne : gp ≠ gi) (hg5 : 5 ≤ gi) (hi : gi < w.heap.size) (hpl : gp < w.heap.size) :
    Calls Tryd.prog 48 #[.string s, .func (.func 55) #[] #[.pointer (some ⟨gi, 0, none⟩), .pointer (some ⟨gp, 0, none⟩)]] w fun e w' => e = .returned (.string (propS p s)) ∧ But w.heap.size gi w w' := by
  have HT := Lib.hid ht; clear ht
  have hcv := Lib.hid (fun W : World => run_bytes_of_string (P := Tryd.prog) W 9 46 5 s Tryd.underlying9 Tryd.underlying46 Tryd.underlying5)
  have hsz : s.data.toList.length = s.size := rfl
  have hcv1 := hcv.out w
  generalize hcapE : grownCap w s.size 0 5 = cap at hcv1
  have HBR := Lib.hid (BRow.new w.drew s cap)
  have hbl : Below w.heap.size w (w.drew.alloc (.cells (bytesRow s cap) 5 ((bytesRow s cap).size, (bytesRow s cap).size + 1))) := (((Below.refl _ _).drew).alloc (by simp) _)
  generalize w.drew.alloc (.cells (bytesRow s cap) 5 ((bytesRow s cap).size, (bytesRow s cap).size + 1)) = w0 at hcv1 HBR hbl
  rw [show w.drew.heap.size = w.heap.size from rfl] at HBR
  have c1 : w0.cell? ⟨gi, 0, none⟩ = some (.bool false) := by rw [hbl.cell (p := ⟨gi, 0, none⟩) hi]; exact h1
  have f1 : w0.frozen? ⟨gi, 0, none⟩ = false := by rw [hbl.frozen (p := ⟨gi, 0, none⟩) hi]; exact hf
  have C1 := Lib.hid c1; have F1 := Lib.hid f1; have H2 := Lib.hid h2; clear c1 f1 h1 hf h2
  have HBL := Lib.hid (But.of (g := gi) hbl); clear hbl
  go_enter Tryd.func48, Tryd.ntmps48
  go_wp2_with fail
  go_loopw [12] (fun i wr => ∃ k : Nat, k ≤ s.data.toList.length ∧ i = .int .i64 k ∧ BRow wr w.heap.size ((List.range k).map (pAt p s.data.toList) ++ s.data.toList.drop k) ∧ But w.heap.size gi w wr ∧ wr.cell? ⟨gi, 0, none⟩ = some (.bool (befB p s.data.toList k)) ∧ wr.frozen? ⟨gi, 0, none⟩ = false) (fun i _ => s.size - (intOf i).toNat)
  case atStart => exact ⟨0, by omega, rfl, by simpa using HBR.out, HBL.out, C1.out, F1.out⟩
  case round =>
    obtain ⟨k, hk, rfl, hrow, hbut, hci, hfi⟩ := hrel
    have HB := Lib.hid hbut; clear hbut
    have HR := Lib.hid hrow; clear hrow
    have CI := Lib.hid hci; have FI := Lib.hid hfi; clear hci hfi
    by_cases hlt : k < s.data.toList.length
    · have hck := (HR.out.2 k (by rw [partG_len _ _ k hk]; exact hlt)).1
      rw [partG_at _ _ hlt] at hck
      have HPS := Lib.hid (partG_set (pAt p s.data.toList) _ hlt)
      have hbb := byte_lt (s.data.toList.getD k 0)
      have hbf : befB p s.data.toList (k + 1) = letN p (s.data.toList.getD k 0).toNat := by simp [befB]
      have HBF := Lib.hid hbf; clear hbf
      have hpa : pAt p s.data.toList k = UInt8.ofNat (propN p (befB p s.data.toList k) (s.data.toList.getD k 0).toNat) := rfl
      have HPA := Lib.hid hpa; clear hpa
      have hks : k < s.size := by omega
      have hks' : (k : Int) < s.size := by omega
      generalize (s.data.toList.getD k 0) = z at *
      have hlt2 := prop_lt (iw := befB p s.data.toList k) hbb hp
      have HCL : Hid (∀ W, But w.heap.size gi w W → W.cell? ⟨gi, 0, none⟩ = some (.bool (befB p s.data.toList k)) → W.frozen? ⟨gi, 0, none⟩ = false → Calls Tryd.prog 55 #[.int .u8 z.toNat, .pointer (some ⟨gi, 0, none⟩), .pointer (some ⟨gp, 0, none⟩)] W fun e w' => e = .returned (.int .u8 (propN p (befB p s.data.toList k) z.toNat)) ∧ But W.heap.size gi W w' ∧ w'.cell? ⟨gi, 0, none⟩ = some (.bool (letN p z.toNat)) ∧ w'.frozen? ⟨gi, 0, none⟩ = false) :=
        Lib.hid fun W hW a b => properC_any z.toNat p gi gp _ hbb hp W (HT.out.but hW (Nat.le_refl _) hg5) a b ((hW.cell hpl hne).trans H2.out) hne hg5 (Nat.lt_of_lt_of_le hi hW.size) (Nat.lt_of_lt_of_le hpl hW.size)
      generalize propN p (befB p s.data.toList k) z.toNat = v at *
      go_wp2_with fail
      refine (HCL.out _ HB.out CI.out FI.out).mono ?_
      rintro e w1 ⟨rfl, hb1, hc1, hf1⟩
      have hr1 := HR.out.but hb1 HR.out.1 (by omega)
      obtain ⟨hcz, hfz⟩ := (hr1.2 k (by rw [partG_len _ _ k hk]; exact hlt))
      have HR1 := Lib.hid hr1; clear hr1
      have HB1 := Lib.hid (HB.out.trans (hb1.mono HB.out.size)); clear hb1
      have HC1 := Lib.hid hc1; have HF1 := Lib.hid hf1; clear hc1 hf1
      rw [partG_at _ _ hlt] at hcz
      have hgw : w.heap.size ≠ gi := by omega
      have HNE := Lib.hid hgw; clear hgw
      go_wp2_with fail
      go_roundw
      case rel => exact ⟨k + 1, by omega, by go_num, by rw [← HPS.out]; exact HR1.out.set (by rw [partG_len _ _ k hk]; exact hlt) (by rw [HPA.out]; simp; omega), HB1.out.setN (Nat.le_refl _) _,
        by rw [World.cell?_setCell_other _ _ _ _ (fun x => HNE.out (by injection x)), HC1.out, HBF.out], by rw [World.frozen?_setCell]; exact HF1.out⟩
      case measure => simp [intOf]; omega
    · have hkl : k = s.data.toList.length := by omega
      have hks : k = s.size := by omega
      have hrow := HR.out
      rw [hkl, List.drop_length, List.append_nil] at hrow
      have htx := hrow.text cap
      rw [List.length_map, List.length_range, hsz] at htx
      have HTX := Lib.hid hrow; clear hrow
      clear hkl
      go_wp2_with fail
      go_ret
      exact ⟨rfl, HB.out⟩

def propT (s : ByteArray) (p : Int) : ByteArray := if wrongN p 0 [s] = 0 then propS p.toNat s else ⟨#[]⟩

set_option maxHeartbeats 2000000 in
theorem Proper_any (s : ByteArray) (p : Int) (w : World) (ht : Tabs w) (hs : s.size ≤ maxLen) :
    Calls Tryd.prog 26 #[.string s, .int .i64 p] w (TRes w (propT s p) (wrongN p 0 [s])) := by
  have HT := Lib.hid ht; clear ht
  cases hz : decide (wrongN p 0 [s] = 0)
  · have hz : ¬ wrongN p 0 [s] = 0 := by simpa using hz
    have e1 : propT s p = ⟨#[]⟩ := by simp [propT, hz]
    rw [e1]
    have hcon := Lib.hid (wrong_any p 0 [s])
    simp only [List.length_singleton] at hcon
    generalize wrongN p 0 [s] = n at *
    have dn : (n != 0) = true := by simpa using hz
    clear hz e1
    go_enter Tryd.func26, Tryd.ntmps26
    go_wp2_with fail
    refine (hcon.out ⟨w.heap.size + 1, 0, none⟩ 1 _ (by simp) (by simpa using hs) (text_cell (w.alloc _) s _ (by simp))).mono ?_
    rintro e w1 ⟨rfl, rfl⟩
    go_wp2_with fail
    go_ret2
    exact ⟨rfl, ((Below.refl _ _).alloc (Nat.le_refl _) _).alloc (by simp) _⟩
  · have hz : wrongN p 0 [s] = 0 := by simpa using hz
    obtain ⟨hp0, hp3, _, hss⟩ := wrong_zero hz
    have hs2 : s.size ≤ 2048 := hss s (by simp)
    obtain ⟨q, rfl⟩ : ∃ q : Nat, p = q := ⟨p.toNat, by omega⟩
    have hq : q < 3 := by omega
    have e1 : propT s q = propS q s := by simp [propT, hz]
    rw [e1, hz]
    have hcon := Lib.hid (wrong_any q 0 [s])
    rw [hz] at hcon
    simp only [List.length_singleton] at hcon
    clear hz e1 hp0 hp3 hss
    go_enter Tryd.func26, Tryd.ntmps26
    go_wp2_with fail
    refine (hcon.out ⟨w.heap.size + 1, 0, none⟩ 1 _ (by simp) (by simpa using hs) (text_cell (w.alloc _) s _ (by simp))).mono ?_
    rintro e w1 ⟨rfl, rfl⟩
    go_wp2_with fail
    have hb0 : Below w.heap.size w (((w.alloc (.cells #[.int .i64 q] 3)).alloc (.cells #[.string s] 9)).alloc (.cells #[.bool false] 4)) := (((Below.refl _ _).alloc (Nat.le_refl _) _).alloc (by simp) _).alloc (by simp; omega) _
    have hcell : (((w.alloc (.cells #[.int .i64 q] 3)).alloc (.cells #[.string s] 9)).alloc (.cells #[.bool false] 4)).cell? ⟨w.heap.size, 0, none⟩ = some (.int .i64 q) := by
      rw [World.cell?_alloc_lt _ _ _ (by simp; omega)]; exact cell_new1 _ _ _ _
    have hcell2 : (((w.alloc (.cells #[.int .i64 q] 3)).alloc (.cells #[.string s] 9)).alloc (.cells #[.bool false] 4)).cell? ⟨w.heap.size + 1 + 1, 0, none⟩ = some (.bool false) := by
      have h := cell_new2 ((w.alloc (.cells #[.int .i64 q] 3)).alloc (.cells #[.string s] 9)) (.bool false) 4
      rwa [show ((w.alloc (.cells #[.int .i64 q] 3)).alloc (.cells #[.string s] 9)).heap.size = w.heap.size + 1 + 1 by simp] at h
    have hfr : (((w.alloc (.cells #[.int .i64 q] 3)).alloc (.cells #[.string s] 9)).alloc (.cells #[.bool false] 4)).frozen? ⟨w.heap.size + 1 + 1, 0, none⟩ = false :=
      World.frozen?_alloc_at _ _ _ _ (by simp)
    have hz0 : (((w.alloc (.cells #[.int .i64 q] 3)).alloc (.cells #[.string s] 9)).alloc (.cells #[.bool false] 4)).heap.size = w.heap.size + 1 + 1 + 1 := by simp
    have ht0 := HT.out.below hb0 (Nat.le_refl _)
    have h5 := HT.out.pos
    generalize ((w.alloc (.cells #[.int .i64 q] 3)).alloc (.cells #[.string s] 9)).alloc (.cells #[.bool false] 4) = w1 at *
    refine (mappedP_any (w.heap.size + 1 + 1) w.heap.size q s w1 (by omega) hq ht0 hcell2 hfr hcell (by omega) (by omega) (by omega) (by omega)).mono ?_
    rintro e w2 ⟨rfl, hb2⟩
    have HB2 := Lib.hid (hb0.trans (hb2.below (by omega) (by omega))); clear hb2
    go_wp2_with fail
    go_ret2
    exact ⟨rfl, HB2.out⟩
end Go.Proofs.YtgeikbcfjidgcaaDoor
