/- Count of both. -/
import Derived.Test.YtgeikbcfjidgcaaDoorPgD
namespace Go.Proofs.YtgeikbcfjidgcaaDoor
open Go.RowKit
set_option linter.unusedVariables false
set_option linter.unusedSimpArgs false

theorem results_tmp4 {fn : Func} {t u v x : Tmp} (h : fn.results = #[.tmp t, .tmp u, .tmp v, .tmp x]) (tmps : Array Value) (P : Program) (w : World) :
    (results fn tmps).run P w = .ok (.tuple #[tmps.getD t undef, tmps.getD u undef, tmps.getD v undef, tmps.getD x undef]) w := by
  simp [results, h]
def cntStep (p : Nat) (st : Nat × Nat) (b : Nat) : Nat × Nat := if letN p b then (st.1 + 1, st.2) else if 48 ≤ b ∧ b ≤ 57 then (st.1, st.2 + 1) else st
def cntGo (p : Nat) (bs : List Nat) : Nat × Nat := bs.foldl (cntStep p) (0, 0)
theorem cnt_le (p : Nat) : ∀ (bs : List Nat) (st : Nat × Nat), (bs.foldl (cntStep p) st).1 + (bs.foldl (cntStep p) st).2 ≤ st.1 + st.2 + bs.length
  | [], st => by simp
  | b :: bs, st => by
    have h := cnt_le p bs (cntStep p st b)
    have h2 : (cntStep p st b).1 + (cntStep p st b).2 ≤ st.1 + st.2 + 1 := by
      unfold cntStep; split
      · simp only; omega
      · split
        · simp only; omega
        · omega
    rw [List.foldl_cons, List.length_cons]
    omega
theorem cnt_take (p : Nat) (s : ByteArray) {k : Nat} (hk : k < s.size) : cntGo p ((sb s).take (k + 1)) = cntStep p (cntGo p ((sb s).take k)) (s[k].toNat) := by
  have hl : k < (sb s).length := by rw [sb_len]; exact hk
  rw [List.take_succ_eq_append_getElem hl]
  unfold cntGo
  rw [List.foldl_append]
  simp [sb]; rfl
def cntA (s : ByteArray) (p : Int) : Int := if wrongN p 0 [s] = 0 then (cntGo p.toNat (sb s)).1 else 0
def cntD (s : ByteArray) (p : Int) : Int := if wrongN p 0 [s] = 0 then (cntGo p.toNat (sb s)).2 else 0
def cntO (s : ByteArray) (p : Int) : Int := if wrongN p 0 [s] = 0 then (s.size : Int) - (cntGo p.toNat (sb s)).1 - (cntGo p.toNat (sb s)).2 else 0
def NRes (w : World) (a d o n : Int) (e : Ending) (w' : World) : Prop := e = .returned (.tuple #[.int .i64 a, .int .i64 d, .int .i64 o, .int .i64 n]) ∧ Below w.heap.size w w'

set_option maxHeartbeats 4000000 in
theorem Count_any (s : ByteArray) (p : Int) (w : World) (ht : Tabs w) (hs : s.size ≤ maxLen) :
    Calls Tryd.prog 28 #[.string s, .int .i64 p] w (NRes w (cntA s p) (cntD s p) (cntO s p) (wrongN p 0 [s])) := by
  have HT := Lib.hid ht; clear ht
  have hcon := Lib.hid (wrong_any p 0 [s])
  simp only [List.length_singleton] at hcon
  cases hz : decide (wrongN p 0 [s] = 0)
  · have hz : ¬ wrongN p 0 [s] = 0 := by simpa using hz
    have e1 : cntA s p = 0 ∧ cntD s p = 0 ∧ cntO s p = 0 := by simp [cntA, cntD, cntO, hz]
    rw [e1.1, e1.2.1, e1.2.2]
    generalize wrongN p 0 [s] = n at *
    have dn : (n != 0) = true := by simpa using hz
    clear hz e1
    go_enter Tryd.func28, Tryd.ntmps28
    go_wp2_with fail
    refine (hcon.out ⟨w.heap.size, 0, none⟩ 1 _ (by simp) (by simpa using hs) (text_cell w s _ rfl)).mono ?_
    rintro e w1 ⟨rfl, rfl⟩
    go_wp2_with fail
    (try simp only [Exit.inBlock, Exit.then])
    refine bodyPost_ret (results_tmp4 rfl _ _ _) rfl ?_
    exact ⟨rfl, (Below.refl _ _).alloc (Nat.le_refl _) _⟩
  · have hz : wrongN p 0 [s] = 0 := by simpa using hz
    obtain ⟨hp0, hp3, _, hss⟩ := wrong_zero hz
    have hs2 : s.size ≤ 2048 := hss s (by simp)
    obtain ⟨q, rfl⟩ : ∃ q : Nat, p = q := ⟨p.toNat, by omega⟩
    have hq : q < 3 := by omega
    have e1 : cntA s q = (cntGo q (sb s)).1 ∧ cntD s q = (cntGo q (sb s)).2 ∧ cntO s q = (s.size : Int) - (cntGo q (sb s)).1 - (cntGo q (sb s)).2 := by simp [cntA, cntD, cntO, hz]
    rw [e1.1, e1.2.1, e1.2.2, hz]
    rw [hz] at hcon
    clear hz e1 hp0 hp3 hss
    have HB0 : Hid (Below w.heap.size w (w.alloc (.cells #[.string s] 9))) := Lib.hid ((Below.refl _ _).alloc (Nat.le_refl _) _)
    go_enter Tryd.func28, Tryd.ntmps28
    go_wp2_with fail
    refine (hcon.out ⟨w.heap.size, 0, none⟩ 1 _ (by simp) (by simpa using hs) (text_cell w s _ rfl)).mono ?_
    rintro e w1 ⟨rfl, rfl⟩
    generalize w.alloc (.cells #[.string s] 9) = w0 at *
    go_wp2_with fail
    go_loopw [9, 10, 21] (fun la da i wr => ∃ k : Nat, k ≤ s.size ∧ i = .int .i64 k ∧ la = .int .i64 (cntGo q ((sb s).take k)).1 ∧ da = .int .i64 (cntGo q ((sb s).take k)).2 ∧ Below w.heap.size w wr) (fun _ _ i _ => s.size - (intOf i).toNat)
    case atStart => exact ⟨0, by omega, rfl, by simp [cntGo], by simp [cntGo], HB0.out⟩
    case round =>
      obtain ⟨k, hk, rfl, rfl, rfl, hbel⟩ := hrel
      have HB := Lib.hid hbel; clear hbel
      by_cases hlt : k < s.size
      · have hks : (k : Int) < s.size := by omega
        have hst := cnt_take q s hlt
        have hle := cnt_le q ((sb s).take k) (0, 0)
        rw [show ((sb s).take k).foldl (cntStep q) (0, 0) = cntGo q ((sb s).take k) from rfl, List.length_take] at hle
        have hb := s[k].toNat_lt
        generalize hbe : s[k].toNat = b at *
        generalize cntGo q ((sb s).take k) = st at *
        obtain ⟨la, da⟩ := st
        simp only at hle
        have hla : la ≤ 2048 := by omega
        have hda : da ≤ 2048 := by omega
        have HST := Lib.hid hst; clear hst hle
        go_wp2_with fail
        refine (isLetter_any b q hb hq _ (HT.out.below HB.out (Nat.le_refl _))).mono ?_
        rintro e w1 ⟨rfl, hb1⟩
        have HB1 := Lib.hid (HB.out.trans (hb1.mono HB.out.size)); clear hb1
        cases hl : letN q b
        · by_cases h48 : 48 ≤ b
          · have g1 : (48 : Int) ≤ b := by omega
            by_cases h57 : b ≤ 57
            · have g2 : (b : Int) ≤ 57 := by omega
              have hn : cntStep q (la, da) b = (la, da + 1) := by unfold cntStep; rw [hl, if_neg (by simp), if_pos ⟨h48, h57⟩]
              have HN := Lib.hid (HST.out.trans hn); clear hn hl h48 h57
              go_wp2_with fail
              go_roundw
              case rel => exact ⟨k + 1, by omega, by go_num, by rw [HN.out], by rw [HN.out]; go_num, HB1.out⟩
              case measure => simp [intOf]; omega
            · have g2 : ¬ (b : Int) ≤ 57 := by omega
              have hn : cntStep q (la, da) b = (la, da) := by unfold cntStep; rw [hl, if_neg (by simp), if_neg (fun h => h57 h.2)]
              have HN := Lib.hid (HST.out.trans hn); clear hn hl h48 h57
              go_wp2_with fail
              go_roundw
              case rel => exact ⟨k + 1, by omega, by go_num, by rw [HN.out], by rw [HN.out], HB1.out⟩
              case measure => simp [intOf]; omega
          · have g1 : ¬ (48 : Int) ≤ b := by omega
            have hn : cntStep q (la, da) b = (la, da) := by unfold cntStep; rw [hl, if_neg (by simp), if_neg (fun h => h48 h.1)]
            have HN := Lib.hid (HST.out.trans hn); clear hn hl h48
            go_wp2_with fail
            go_roundw
            case rel => exact ⟨k + 1, by omega, by go_num, by rw [HN.out], by rw [HN.out], HB1.out⟩
            case measure => simp [intOf]; omega
        · have hn : cntStep q (la, da) b = (la + 1, da) := by unfold cntStep; rw [hl, if_pos rfl]
          have HN := Lib.hid (HST.out.trans hn); clear hn hl
          go_wp2_with fail
          go_roundw
          case rel => exact ⟨k + 1, by omega, by go_num, by rw [HN.out]; go_num, by rw [HN.out], HB1.out⟩
          case measure => simp [intOf]; omega
      · have hkl : k = s.size := by omega
        have hst : cntGo q ((sb s).take k) = cntGo q (sb s) := by rw [hkl, ← sb_len, List.take_length]
        have hle := cnt_le q (sb s) (0, 0)
        rw [show (sb s).foldl (cntStep q) (0, 0) = cntGo q (sb s) from rfl, sb_len] at hle
        rw [hst]
        clear hkl hst
        generalize cntGo q (sb s) = st at *
        obtain ⟨la, da⟩ := st
        simp only at hle ⊢
        have g1 : (la : Int) + da ≤ s.size := by omega
        go_wp2_with fail
        (try simp only [Exit.inBlock, Exit.then])
        refine bodyPost_ret (results_tmp4 rfl _ _ _) rfl ?_
        exact ⟨rfl, HB.out⟩

set_option maxHeartbeats 4000000 in
theorem refCount_any (s : ByteArray) (p : Int) (w : World) (hs : s.size ≤ maxLen) :
    Calls Tryd.prog 29 #[.string s, .int .i64 p] w (NRes w (cntA s p) (cntD s p) (cntO s p) (wrongN p 0 [s])) := by
  have hpc := Lib.hid (pair_cells w s p)
  have hcon := Lib.hid (fun W => asked_one 0 p s w.heap.size (w.heap.size + 1) W hs)
  cases hz : decide (wrongN p 0 [s] = 0)
  · have hz : ¬ wrongN p 0 [s] = 0 := by simpa using hz
    have e1 : cntA s p = 0 ∧ cntD s p = 0 ∧ cntO s p = 0 := by simp [cntA, cntD, cntO, hz]
    rw [e1.1, e1.2.1, e1.2.2]
    generalize wrongN p 0 [s] = n at *
    have dn : (n != 0) = true := by simpa using hz
    clear hz e1
    go_enter Tryd.func29, Tryd.ntmps29
    go_wp2_with fail
    refine (hcon.out _ hpc.out.1 hpc.out.2).mono ?_
    rintro e w1 ⟨rfl, rfl⟩
    go_wp2_with fail
    (try simp only [Exit.inBlock, Exit.then])
    refine bodyPost_ret (results_tmp4 rfl _ _ _) rfl ?_
    exact ⟨rfl, two_below w _ _⟩
  · have hz : wrongN p 0 [s] = 0 := by simpa using hz
    obtain ⟨hp0, hp3, _, hss⟩ := wrong_zero hz
    have hs2 : s.size ≤ 2048 := hss s (by simp)
    obtain ⟨q, rfl⟩ : ∃ q : Nat, p = q := ⟨p.toNat, by omega⟩
    have hq : q < 3 := by omega
    have e1 : cntA s q = (cntGo q (sb s)).1 ∧ cntD s q = (cntGo q (sb s)).2 ∧ cntO s q = (s.size : Int) - (cntGo q (sb s)).1 - (cntGo q (sb s)).2 := by simp [cntA, cntD, cntO, hz]
    rw [e1.1, e1.2.1, e1.2.2, hz]
    rw [hz] at hcon
    clear hz e1 hp0 hp3 hss
    have HB0 : Hid (Below w.heap.size w ((w.alloc (.cells #[.string s] 9)).alloc (.cells #[.int .i64 q] 3))) := Lib.hid (two_below w _ _)
    go_enter Tryd.func29, Tryd.ntmps29
    go_wp2_with fail
    refine (hcon.out _ hpc.out.1 hpc.out.2).mono ?_
    rintro e w1 ⟨rfl, rfl⟩
    generalize (w.alloc (.cells #[.string s] 9)).alloc (.cells #[.int .i64 q] 3) = w0 at *
    go_wp2_with fail
    go_loopw [9, 10, 11] (fun la da i wr => ∃ k : Nat, k ≤ s.size ∧ i = .int .i64 k ∧ la = .int .i64 (cntGo q ((sb s).take k)).1 ∧ da = .int .i64 (cntGo q ((sb s).take k)).2 ∧ Below w.heap.size w wr) (fun _ _ i _ => s.size - (intOf i).toNat)
    case atStart => exact ⟨0, by omega, rfl, by simp [cntGo], by simp [cntGo], HB0.out⟩
    case round =>
      obtain ⟨k, hk, rfl, rfl, rfl, hbel⟩ := hrel
      have HB := Lib.hid hbel; clear hbel
      by_cases hlt : k < s.size
      · have hks : (k : Int) < s.size := by omega
        have hst := cnt_take q s hlt
        have hle := cnt_le q ((sb s).take k) (0, 0)
        rw [show ((sb s).take k).foldl (cntStep q) (0, 0) = cntGo q ((sb s).take k) from rfl, List.length_take] at hle
        have hb := s[k].toNat_lt
        generalize hbe : s[k].toNat = b at *
        generalize cntGo q ((sb s).take k) = st at *
        obtain ⟨la, da⟩ := st
        simp only at hle
        have hla : la ≤ 2048 := by omega
        have hda : da ≤ 2048 := by omega
        have HST := Lib.hid hst; clear hst hle
        go_wp2_with fail
        refine (refIsLetter_any b q hb hq _).mono ?_
        rintro e w1 ⟨rfl, rfl⟩
        have HB1 := HB
        cases hl : letN q b
        · by_cases h48 : 48 ≤ b
          · have g1 : (48 : Int) ≤ b := by omega
            by_cases h57 : b ≤ 57
            · have g2 : (b : Int) ≤ 57 := by omega
              have hn : cntStep q (la, da) b = (la, da + 1) := by unfold cntStep; rw [hl, if_neg (by simp), if_pos ⟨h48, h57⟩]
              have HN := Lib.hid (HST.out.trans hn); clear hn hl h48 h57
              go_wp2_with fail
              go_roundw
              case rel => exact ⟨k + 1, by omega, by go_num, by rw [HN.out], by rw [HN.out]; go_num, HB1.out⟩
              case measure => simp [intOf]; omega
            · have g2 : ¬ (b : Int) ≤ 57 := by omega
              have hn : cntStep q (la, da) b = (la, da) := by unfold cntStep; rw [hl, if_neg (by simp), if_neg (fun h => h57 h.2)]
              have HN := Lib.hid (HST.out.trans hn); clear hn hl h48 h57
              go_wp2_with fail
              go_roundw
              case rel => exact ⟨k + 1, by omega, by go_num, by rw [HN.out], by rw [HN.out], HB1.out⟩
              case measure => simp [intOf]; omega
          · have g1 : ¬ (48 : Int) ≤ b := by omega
            have hn : cntStep q (la, da) b = (la, da) := by unfold cntStep; rw [hl, if_neg (by simp), if_neg (fun h => h48 h.1)]
            have HN := Lib.hid (HST.out.trans hn); clear hn hl h48
            go_wp2_with fail
            go_roundw
            case rel => exact ⟨k + 1, by omega, by go_num, by rw [HN.out], by rw [HN.out], HB1.out⟩
            case measure => simp [intOf]; omega
        · have hn : cntStep q (la, da) b = (la + 1, da) := by unfold cntStep; rw [hl, if_pos rfl]
          have HN := Lib.hid (HST.out.trans hn); clear hn hl
          go_wp2_with fail
          go_roundw
          case rel => exact ⟨k + 1, by omega, by go_num, by rw [HN.out]; go_num, by rw [HN.out], HB1.out⟩
          case measure => simp [intOf]; omega
      · have hkl : k = s.size := by omega
        have hst : cntGo q ((sb s).take k) = cntGo q (sb s) := by rw [hkl, ← sb_len, List.take_length]
        have hle := cnt_le q (sb s) (0, 0)
        rw [show (sb s).foldl (cntStep q) (0, 0) = cntGo q (sb s) from rfl, sb_len] at hle
        rw [hst]
        clear hkl hst
        generalize cntGo q (sb s) = st at *
        obtain ⟨la, da⟩ := st
        simp only at hle ⊢
        have g1 : (la : Int) + da ≤ s.size := by omega
        go_wp2_with fail
        (try simp only [Exit.inBlock, Exit.then])
        refine bodyPost_ret (results_tmp4 rfl _ _ _) rfl ?_
        exact ⟨rfl, HB.out⟩
end Go.Proofs.YtgeikbcfjidgcaaDoor
