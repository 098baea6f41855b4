/- IsLetter, upper and lower of the reference, and digit of its code of sounds. -/
import Derived.Test.YtgeikbcfjidgcaaDoorPgP
namespace Go.Proofs.YtgeikbcfjidgcaaDoor
open Go.RowKit
set_option linter.unusedVariables false
set_option linter.unusedSimpArgs false

theorem pair_tab : ∀ (p : Fin 3) (b : Fin 256), ((pairN p.val b.val).2.1 = true → (pairN p.val b.val).2.2 ≤ b.val) ∧ ((pairN p.val b.val).1 = true → b.val + (pairN p.val b.val).2.2 < 256) := by decide +kernel

set_option maxHeartbeats 1000000 in
theorem refIsLetter_any (b p : Nat) (hb : b < 256) (hp : p < 3) (w : World) :
    Calls Tryd.prog 57 #[.int .u8 b, .int .i64 p] w fun e w' => e = .returned (.bool (letN p b)) ∧ w = w' := by
  have C := Lib.hid (fun W => pair_any b p hb hp W)
  unfold PairIs at C
  unfold letN
  generalize pairN p b = t at *
  obtain ⟨x, y, d⟩ := t
  simp only at C
  go_enter Tryd.func57, Tryd.ntmps57
  go_wp2_with fail
  refine (C.out _).mono ?_
  rintro e w1 ⟨rfl, rfl⟩
  cases x
  · go_wp2_with fail
    go_ret
    exact ⟨rfl, rfl⟩
  · go_wp2_with fail
    go_ret
    exact ⟨rfl, rfl⟩

set_option maxHeartbeats 1000000 in
theorem refUpper_any (b p : Nat) (hb : b < 256) (hp : p < 3) (w : World) :
    Calls Tryd.prog 51 #[.int .u8 b, .int .i64 p] w fun e w' => e = .returned (.int .u8 (upN p b)) ∧ w = w' := by
  have C := Lib.hid (fun W => pair_any b p hb hp W)
  have h1 := (pair_tab ⟨p, hp⟩ ⟨b, hb⟩).1
  unfold PairIs at C
  unfold upN
  simp only at h1
  generalize pairN p b = t at *
  obtain ⟨x, y, d⟩ := t
  simp only at C h1
  cases y
  · rw [if_neg (by simp)]
    clear h1
    go_enter Tryd.func51, Tryd.ntmps51
    go_wp2_with fail
    refine (C.out _).mono ?_
    rintro e w1 ⟨rfl, rfl⟩
    go_wp2_with fail
    go_ret
    exact ⟨rfl, rfl⟩
  · have h1 := h1 rfl
    rw [if_pos rfl]
    have he : ((b : Int) - d) % 256 = ((b - d : Nat) : Int) := by omega
    have HE := Lib.hid he; clear he
    go_enter Tryd.func51, Tryd.ntmps51
    go_wp2_with fail
    refine (C.out _).mono ?_
    rintro e w1 ⟨rfl, rfl⟩
    go_wp2_with fail
    go_ret
    have he2 : ((b - d : Nat) : Int) = (b : Int) - d := by omega
    exact ⟨by rw [he2]; rfl, rfl⟩

set_option maxHeartbeats 1000000 in
theorem refLower_any (b p : Nat) (hb : b < 256) (hp : p < 3) (w : World) :
    Calls Tryd.prog 54 #[.int .u8 b, .int .i64 p] w fun e w' => e = .returned (.int .u8 (lowN p b)) ∧ w = w' := by
  have C := Lib.hid (fun W => pair_any b p hb hp W)
  have h1 := (pair_tab ⟨p, hp⟩ ⟨b, hb⟩).2
  unfold PairIs at C
  unfold lowN
  simp only at h1
  generalize pairN p b = t at *
  obtain ⟨x, y, d⟩ := t
  simp only at C h1
  cases x
  · rw [if_neg (by simp)]
    clear h1
    go_enter Tryd.func54, Tryd.ntmps54
    go_wp2_with fail
    refine (C.out _).mono ?_
    rintro e w1 ⟨rfl, rfl⟩
    go_wp2_with fail
    go_ret
    exact ⟨rfl, rfl⟩
  · have h1 := h1 rfl
    rw [if_pos rfl]
    have he : ((b : Int) + d) % 256 = ((b + d : Nat) : Int) := by omega
    have HE := Lib.hid he; clear he
    go_enter Tryd.func54, Tryd.ntmps54
    go_wp2_with fail
    refine (C.out _).mono ?_
    rintro e w1 ⟨rfl, rfl⟩
    go_wp2_with fail
    go_ret
    have he2 : ((b + d : Nat) : Int) = (b : Int) + d := by omega
    exact ⟨by rw [he2]; rfl, rfl⟩

/-- The letters of the digits of a code of sounds. -/
def strsL : List ByteArray := [⟨#[]⟩, ⟨#[66, 70, 80, 86]⟩, ⟨#[67, 71, 74, 75, 81, 83, 88, 90]⟩, ⟨#[68, 84]⟩, ⟨#[76]⟩, ⟨#[77, 78]⟩, ⟨#[82]⟩]
theorem byte_at (l : ByteArray) (j : Nat) (h : j < l.size) : (l[j]'h).toNat = ((l.data.toList).getD j 0).toNat := by
  have h' : j < l.data.size := h
  have e : l.data.toList.getD j 0 = l.data[j] := by
    rw [List.getD_eq_getElem?_getD, Array.getElem?_toList, Array.getElem?_eq_getElem h']; rfl
  rw [e]; rfl
def atS (d i : Nat) : Nat := (((strsL.getD d ⟨#[]⟩).data.toList).getD i 0).toNat
def lenS (d : Nat) : Nat := (strsL.getD d ⟨#[]⟩).size
theorem lenS_le : ∀ d : Fin 7, lenS d.val ≤ 8 := by decide +kernel
theorem hit_tab : ∀ (c : Fin 26) (d : Fin 7) (i : Fin 8), i.val < lenS d.val → atS d.val i.val = 65 + c.val → digI (65 + c.val) = d.val := by decide +kernel
theorem miss_tab : ∀ (c : Fin 26), (∀ (d : Fin 7) (i : Fin 8), i.val < lenS d.val → atS d.val i.val ≠ 65 + c.val) → digI (65 + c.val) = if 65 + c.val = 72 ∨ 65 + c.val = 87 then -1 else 0 := by decide +kernel

set_option maxHeartbeats 4000000 in
theorem digit_any (c : Nat) (h1 : 65 ≤ c) (h2 : c ≤ 90) (w : World) :
    Calls Tryd.prog 62 #[.int .u8 c] w fun e w' => e = .returned (.int .i64 (digI c)) ∧ Below w.heap.size w w' := by
  go_enter Tryd.func62, Tryd.ntmps62
  go_wp2_with fail
  have hcell : ∀ d, d < 7 → (w.alloc (.cells #[.string ⟨#[]⟩, .string ⟨#[66, 70, 80, 86]⟩, .string ⟨#[67, 71, 74, 75, 81, 83, 88, 90]⟩, .string ⟨#[68, 84]⟩, .string ⟨#[76]⟩, .string ⟨#[77, 78]⟩, .string ⟨#[82]⟩] 9)).cell? ⟨w.heap.size, d, none⟩ = some (.string (strsL.getD d ⟨#[]⟩)) := by
    intro d hd
    rcases (show d = 0 ∨ d = 1 ∨ d = 2 ∨ d = 3 ∨ d = 4 ∨ d = 5 ∨ d = 6 by omega) with rfl | rfl | rfl | rfl | rfl | rfl | rfl <;> simp [strsL]
  have HB : Hid (Below w.heap.size w (w.alloc (.cells #[.string ⟨#[]⟩, .string ⟨#[66, 70, 80, 86]⟩, .string ⟨#[67, 71, 74, 75, 81, 83, 88, 90]⟩, .string ⟨#[68, 84]⟩, .string ⟨#[76]⟩, .string ⟨#[77, 78]⟩, .string ⟨#[82]⟩] 9))) := Lib.hid ((Below.refl _ _).alloc (Nat.le_refl _) _)
  generalize w.alloc (.cells #[.string ⟨#[]⟩, .string ⟨#[66, 70, 80, 86]⟩, .string ⟨#[67, 71, 74, 75, 81, 83, 88, 90]⟩, .string ⟨#[68, 84]⟩, .string ⟨#[76]⟩, .string ⟨#[77, 78]⟩, .string ⟨#[82]⟩] 9) = w1 at *
  have HC := Lib.hid hcell; clear hcell
  go_loop [8] (fun i => ∃ d : Nat, d ≤ 7 ∧ i = .int .i64 d ∧ Hid (∀ d' i, d' < d → i < lenS d' → atS d' i ≠ c)) (fun i => 7 - (intOf i).toNat)
  case atStart => exact ⟨0, by omega, rfl, Lib.hid fun d' i h => by omega⟩
  case round =>
    obtain ⟨d, hd, rfl, HA⟩ := hrel
    by_cases hlt : d < 7
    · have hcd := HC.out d hlt
      have hls : (strsL.getD d ⟨#[]⟩).size = lenS d := rfl
      have hl8 : lenS d ≤ 8 := lenS_le ⟨d, hlt⟩
      have hat : ∀ j (h : j < (strsL.getD d ⟨#[]⟩).size), ((strsL.getD d ⟨#[]⟩)[j]'h).toNat = atS d j := fun j h => byte_at _ j h
      generalize strsL.getD d ⟨#[]⟩ = l at *
      have HAT := Lib.hid hat; clear hat
      have HLS := Lib.hid hls; clear hls
      go_wp2_with fail
      go_loop [5] (fun i => ∃ j : Nat, j ≤ lenS d ∧ i = .int .i64 j ∧ Hid (∀ i, i < j → atS d i ≠ c)) (fun i => lenS d - (intOf i).toNat)
      case atStart => exact ⟨0, by omega, rfl, Lib.hid fun i h => by omega⟩
      case round =>
        obtain ⟨j, hj, rfl, HJ⟩ := hrel
        by_cases hjl : j < lenS d
        · have hjs : j < l.size := by rw [HLS.out]; exact hjl
          have hjs' : (j : Int) < l.size := by omega
          have hv := HAT.out j hjs
          by_cases heq : atS d j = c
          · have hdig : digI c = d := by
              have h := hit_tab ⟨c - 65, by omega⟩ ⟨d, hlt⟩ ⟨j, by omega⟩ hjl
              simp only [show 65 + (c - 65) = c by omega] at h
              exact h heq
            have HDG := Lib.hid hdig; clear hdig
            rw [heq] at hv
            clear heq
            go_wp2_with fail
            go_ret
            exact ⟨by rw [HDG.out]; rfl, HB.out⟩
          · have g1 : ((atS d j : Int) == (c : Int)) = false := by simp; omega
            have HNE := Lib.hid heq; clear heq
            go_wp2_with fail
            exact ⟨⟨j + 1, by omega, rfl, Lib.hid fun i h => by
              rcases Nat.lt_or_ge i j with q | q
              · exact HJ.out i q
              · obtain rfl : i = j := by omega
                exact HNE.out⟩, by simp [intOf]; omega⟩
        · have hjs : ¬ (j : Int) < l.size := by rw [HLS.out]; omega
          have hje : j = lenS d := by omega
          have HE := Lib.hid hje; clear hje
          go_wp2_with fail
          exact ⟨⟨d + 1, by omega, rfl, Lib.hid fun d' i h hi => by
            rcases Nat.lt_or_ge d' d with q | q
            · exact HA.out d' i q hi
            · obtain rfl : d' = d := by omega
              exact HJ.out i (by rw [HE.out]; exact hi)⟩, by simp [intOf]; omega⟩
    · obtain rfl : d = 7 := by omega
      have hm : digI c = if c = 72 ∨ c = 87 then -1 else 0 := by
        have h := miss_tab ⟨c - 65, by omega⟩
        simp only [show 65 + (c - 65) = c by omega] at h
        exact h fun d i hi => HA.out d.val i.val d.isLt hi
      by_cases h72 : c = 72
      · have HM : Hid (digI c = -1) := Lib.hid (by rw [hm, if_pos (.inl h72)])
        have g1 : ((c : Int) == 72) = true := by simp; omega
        clear hm h72
        go_wp2_with fail
        go_ret
        exact ⟨by rw [HM.out]; rfl, HB.out⟩
      · have g1 : ((c : Int) == 72) = false := by simp; omega
        by_cases h87 : c = 87
        · have HM : Hid (digI c = -1) := Lib.hid (by rw [hm, if_pos (.inr h87)])
          have g2 : ((c : Int) == 87) = true := by simp; omega
          clear hm h72 h87
          go_wp2_with fail
          go_ret
          exact ⟨by rw [HM.out]; rfl, HB.out⟩
        · have HM : Hid (digI c = 0) := Lib.hid (by rw [hm, if_neg (by omega)])
          have g2 : ((c : Int) == 87) = false := by simp; omega
          clear hm h72 h87
          go_wp2_with fail
          go_ret
          exact ⟨by rw [HM.out]; rfl, HB.out⟩
end Go.Proofs.YtgeikbcfjidgcaaDoor
