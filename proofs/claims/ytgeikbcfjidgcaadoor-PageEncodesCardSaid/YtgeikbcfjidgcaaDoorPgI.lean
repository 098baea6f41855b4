/- Weights of the reference, strings.Compare, Order of the program. -/
import Derived.Test.YtgeikbcfjidgcaaDoorPgH
import Derived.Lib.Bytealg
namespace Go.Proofs.YtgeikbcfjidgcaaDoor
open Go.RowKit
set_option linter.unusedVariables false
set_option linter.unusedSimpArgs false

set_option maxHeartbeats 4000000 in
theorem refWeightsT_any (s : ByteArray) (p c : Int) (w : World) (hs : s.size ≤ maxLen) :
    Calls Tryd.prog 31 #[.string s, .int .i64 p, .int .i64 c] w (TRes w (weiT s p c) (wrongN p c [s])) := by
  have hcon := Lib.hid (fun W => asked_one c p s w.heap.size (w.heap.size + 1) W hs)
  have hpc := pair_cells w s p
  have hb0 := two_below w (.cells #[.string s] 9) (.cells #[.int .i64 p] 3)
  have hz0 : ((w.alloc (.cells #[.string s] 9)).alloc (.cells #[.int .i64 p] 3)).heap.size = w.heap.size + 1 + 1 := by simp
  cases hz : decide (wrongN p c [s] = 0)
  · have hz : ¬ wrongN p c [s] = 0 := by simpa using hz
    have e1 : weiT s p c = ⟨#[]⟩ := by simp [weiT, hz]
    rw [e1]
    generalize wrongN p c [s] = n at *
    have dn : (n != 0) = true := by simpa using hz
    clear hz e1
    have HPC := Lib.hid hpc; clear hpc
    have HB0 := Lib.hid hb0; clear hb0 hz0
    go_enter Tryd.func31, Tryd.ntmps31
    go_wp2_with fail
    refine (hcon.out _ HPC.out.1 HPC.out.2).mono ?_
    rintro e w1 ⟨rfl, rfl⟩
    go_wp2_with fail
    go_ret2
    exact ⟨rfl, HB0.out⟩
  · have hz : wrongN p c [s] = 0 := by simpa using hz
    obtain ⟨hp0, hp3, hc01, hss⟩ := wrong_zero hz
    have hs2 : s.size ≤ 2048 := hss s (by simp)
    obtain ⟨q, rfl⟩ : ∃ q : Nat, p = q := ⟨p.toNat, by omega⟩
    obtain ⟨d, rfl⟩ : ∃ d : Nat, c = d := ⟨c.toNat, by omega⟩
    have hq : q < 3 := by omega
    have hd : d < 2 := by omega
    have e1 : weiT s q d = mapS (weiN q d) s := by simp [weiT, hz]
    rw [e1, hz]
    rw [hz] at hcon
    clear hz e1 hp0 hp3 hss hc01
    have HPC := Lib.hid hpc; clear hpc
    have hcv := fun W : World => run_bytes_of_string (P := Tryd.prog) W 9 46 5 s Tryd.underlying9 Tryd.underlying46 Tryd.underlying5
    have hsz : s.data.toList.length = s.size := rfl
    have HCV := Lib.hid hcv; clear hcv
    have HB0 := Lib.hid hb0; clear hb0
    go_enter Tryd.func31, Tryd.ntmps31
    go_wp2_with fail
    refine (hcon.out _ HPC.out.1 HPC.out.2).mono ?_
    rintro e w1 ⟨rfl, rfl⟩
    generalize (w.alloc (.cells #[.string s] 9)).alloc (.cells #[.int .i64 q] 3) = wb at *
    have hcv1 := HCV.out wb
    generalize hcapE : grownCap wb s.size 0 5 = cap at hcv1
    have HBR := Lib.hid (BRow.new wb.drew s cap)
    have hbl : Below wb.heap.size wb (wb.drew.alloc (.cells (bytesRow s cap) 5 ((bytesRow s cap).size, (bytesRow s cap).size + 1))) := (((Below.refl _ _).drew).alloc (by simp) _)
    have HBL := Lib.hid (HB0.out.trans (hbl.mono (by rw [hz0]; omega))); clear hbl
    have HZ0 : Hid (w.heap.size ≤ wb.heap.size) := Lib.hid (by omega)
    clear hz0
    generalize wb.drew.alloc (.cells (bytesRow s cap) 5 ((bytesRow s cap).size, (bytesRow s cap).size + 1)) = w0 at hcv1 HBR HBL
    rw [show wb.drew.heap.size = wb.heap.size from rfl] at HBR
    go_wp2_with fail
    go_loopw [10] (fun i wr => ∃ k : Nat, k ≤ s.data.toList.length ∧ i = .int .i64 k ∧ BRow wr wb.heap.size ((s.data.toList.take k).map (mapB (weiN q d)) ++ s.data.toList.drop k) ∧ Below w.heap.size w wr) (fun i _ => s.size - (intOf i).toNat)
    case atStart => exact ⟨0, by omega, rfl, by simpa using HBR.out, HBL.out⟩
    case round =>
      obtain ⟨k, hk, rfl, hrow, hbel⟩ := hrel
      have HB := Lib.hid hbel; clear hbel
      have HR := Lib.hid hrow; clear hrow
      by_cases hlt : k < s.data.toList.length
      · have HPS := Lib.hid (part_set (weiN q d) _ hlt)
        have hks : k < s.size := by omega
        have hks' : (k : Int) < s.size := by omega
        have hsk : s[k].toNat = (s.data.toList.getD k 0).toNat := byte_at s k hks
        have hbb := byte_lt (s.data.toList.getD k 0)
        have hmb : mapB (weiN q d) (s.data.toList.getD k 0) = UInt8.ofNat (weiN q d (s.data.toList.getD k 0).toNat) := rfl
        have HMB := Lib.hid hmb; clear hmb
        have hfb := wei_lt hbb hq hd
        obtain ⟨hcz, hfz⟩ := (HR.out.2 k (by rw [part_len _ _ k hk]; exact hlt))
        rw [part_at _ _ hlt] at hcz
        generalize (s.data.toList.getD k 0) = z at *
        go_wp2_with fail
        refine (refWeight_any z.toNat q d hbb hq hd _).mono ?_
        rintro e w1 ⟨rfl, rfl⟩
        go_wp2_with fail
        go_roundw
        case rel => exact ⟨k + 1, by omega, by go_num, by rw [← HPS.out]; exact HR.out.set (by rw [part_len _ _ k hk]; exact hlt) (by rw [HMB.out]; simp; omega), HB.out.setCell HZ0.out _⟩
        case measure => simp [intOf]; omega
      · have hkl : k = s.data.toList.length := by omega
        have hks : k = s.size := by omega
        have hrow := HR.out
        rw [hkl, List.take_length, List.drop_length, List.append_nil] at hrow
        have htx := hrow.text cap
        rw [List.length_map, hsz] at htx
        have HTX := Lib.hid hrow; clear hrow
        clear hkl
        go_wp2_with fail
        go_ret2
        exact ⟨rfl, HB.out⟩

set_option maxHeartbeats 1000000 in
theorem compareString_any (a b : ByteArray) (w : World) :
    Calls Tryd.prog 70 #[.string a, .string b] w fun e w' => e = .returned (.int .i64 (Lib.compareBytes a.data.toList b.data.toList)) ∧ w = w' := by
  go_enter Tryd.func70, Tryd.ntmps70
  go_wp2
  rw [run_callFunc_extern Tryd.func73 (by kernel_rfl) (by kernel_rfl) (by kernel_rfl) (e := Extern.BytealgCompare.compare) (by kernel_rfl), Lib.run_compareString]
  simp only [Result.andThen]
  rw [Oper.upon_value]
  go_wp2
  go_ret
  exact ⟨rfl, rfl⟩
set_option maxHeartbeats 1000000 in
theorem compare_any (a b : ByteArray) (w : World) :
    Calls Tryd.prog 60 #[.string a, .string b] w fun e w' => e = .returned (.int .i64 (Lib.compareBytes a.data.toList b.data.toList)) ∧ w = w' := by
  go_enter Tryd.func60, Tryd.ntmps60
  go_wp2_with fail
  refine (compareString_any a b _).mono ?_
  rintro e w1 ⟨rfl, rfl⟩
  go_wp2_with fail
  go_ret
  exact ⟨rfl, rfl⟩

def wb (p c : Nat) (s : ByteArray) : List UInt8 := s.data.toList.map (mapB (weiN p c))
def ordI (s t : ByteArray) (p c : Int) : Int := if wrongN p c [s, t] = 0 then Lib.compareBytes (wb p.toNat c.toNat s) (wb p.toNat c.toNat t) else 0
def ORes (w : World) (k n : Int) (e : Ending) (w' : World) : Prop := e = .returned (.tuple #[.int .i64 k, .int .i64 n]) ∧ Below w.heap.size w w'
theorem text_cells2 (w : World) (s t : ByteArray) : ∀ j, j < [s, t].length → (w.alloc (.cells #[.string s, .string t] 9)).cell? ((⟨w.heap.size, 0, none⟩ : Addr).add j) = some (.string ([s, t].getD j ByteArray.empty)) := by
  intro j hj
  rcases (show j = 0 ∨ j = 1 by simp at hj; omega) with rfl | rfl
  · simp [Addr.add]
  · simp [Addr.add]

set_option maxHeartbeats 2000000 in
theorem Order_any (s t : ByteArray) (p c : Int) (w : World) (ht : Tabs w) (hs : s.size ≤ maxLen) (hs' : t.size ≤ maxLen) :
    Calls Tryd.prog 32 #[.string s, .string t, .int .i64 p, .int .i64 c] w (ORes w (ordI s t p c) (wrongN p c [s, t])) := by
  have HT := Lib.hid ht; clear ht
  have hss2 : ∀ x ∈ [s, t], x.size ≤ maxLen := by simp [hs, hs']
  cases hz : decide (wrongN p c [s, t] = 0)
  · have hz : ¬ wrongN p c [s, t] = 0 := by simpa using hz
    have e1 : ordI s t p c = 0 := by simp [ordI, hz]
    rw [e1]
    have hcon := Lib.hid (wrong_any p c [s, t])
    simp only [List.length_cons, List.length_nil, Nat.zero_add, Nat.reduceAdd] at hcon
    generalize wrongN p c [s, t] = n at *
    have dn : (n != 0) = true := by simpa using hz
    clear hz e1
    go_enter Tryd.func32, Tryd.ntmps32
    go_wp2_with fail
    refine (hcon.out ⟨w.heap.size, 0, none⟩ 2 _ (by simp) hss2 (text_cells2 w s t)).mono ?_
    rintro e w1 ⟨rfl, rfl⟩
    go_wp2_with fail
    go_ret2
    exact ⟨rfl, (Below.refl _ _).alloc (Nat.le_refl _) _⟩
  · have hz : wrongN p c [s, t] = 0 := by simpa using hz
    obtain ⟨hp0, hp3, hc01, hss⟩ := wrong_zero hz
    have hs2 : s.size ≤ 2048 := hss s (by simp)
    have hs3 : t.size ≤ 2048 := hss t (by simp)
    obtain ⟨q, rfl⟩ : ∃ q : Nat, p = q := ⟨p.toNat, by omega⟩
    obtain ⟨d, rfl⟩ : ∃ d : Nat, c = d := ⟨c.toNat, by omega⟩
    have hq : q < 3 := by omega
    have hd : d < 2 := by omega
    have e1 : ordI s t q d = Lib.compareBytes (mapS (weiN q d) s).data.toList (mapS (weiN q d) t).data.toList := by simp [ordI, hz, wb, mapS]
    rw [e1, hz]
    have hcon := Lib.hid (wrong_any q d [s, t])
    rw [hz] at hcon
    simp only [List.length_cons, List.length_nil, Nat.zero_add, Nat.reduceAdd] at hcon
    have C1 := Lib.hid (fun W h => weights_any s q d hq hd W h (by omega))
    have C2 := Lib.hid (fun W h => weights_any t q d hq hd W h (by omega))
    generalize mapS (weiN q d) s = a at *
    generalize mapS (weiN q d) t = b at *
    clear hz e1 hp0 hp3 hss hc01
    go_enter Tryd.func32, Tryd.ntmps32
    go_wp2_with fail
    refine (hcon.out ⟨w.heap.size, 0, none⟩ 2 _ (by simp) hss2 (text_cells2 w s t)).mono ?_
    rintro e w1 ⟨rfl, rfl⟩
    go_wp2_with fail
    have hb0 : Below w.heap.size w (w.alloc (.cells #[.string s, .string t] 9)) := (Below.refl _ _).alloc (Nat.le_refl _) _
    have HB0 := Lib.hid hb0; clear hb0
    have HT0 := Lib.hid (HT.out.below HB0.out (Nat.le_refl _))
    generalize w.alloc (.cells #[.string s, .string t] 9) = w0 at *
    refine (C1.out _ HT0.out).mono ?_
    rintro e w1 ⟨rfl, hb1⟩
    have HT1 := Lib.hid (HT0.out.below hb1 (Nat.le_refl _))
    have HB1 := Lib.hid (HB0.out.trans (hb1.mono HB0.out.size)); clear hb1
    go_wp2_with fail
    refine (C2.out _ HT1.out).mono ?_
    rintro e w2 ⟨rfl, hb2⟩
    have HB2 := Lib.hid (HB1.out.trans (hb2.mono HB1.out.size)); clear hb2
    go_wp2_with fail
    refine (compare_any a b _).mono ?_
    rintro e w3 ⟨rfl, rfl⟩
    go_wp2_with fail
    go_ret2
    exact ⟨rfl, HB2.out⟩
end Go.Proofs.YtgeikbcfjidgcaaDoor
