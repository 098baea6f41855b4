/- Like of the program. -/
import Derived.Test.YtgeikbcfjidgcaaDoorPgK1
namespace Go.Proofs.YtgeikbcfjidgcaaDoor
open Go.RowKit
set_option linter.unusedVariables false
set_option linter.unusedSimpArgs false

def wn (p c : Nat) (s : ByteArray) : List Nat := (sb s).map (weiN p c)
theorem sb_map {f : Nat → Nat} (hf : ∀ b, b < 256 → f b < 256) (s : ByteArray) : sb (mapS f s) = (sb s).map f := by
  unfold sb
  rw [show (mapS f s).data.toList = s.data.toList.map (mapB f) from rfl, List.map_map, List.map_map]
  refine List.map_congr_left fun b _ => ?_
  exact mapB_nat (hf _ (byte_lt b))
/-- What Like answers. -/
def LikeIs (a b : ByteArray) (p c : Int) (r : Bool) : Prop := (wrongN p c [a, b] = 0 → (r = true ↔ Mt (wn p.toNat c.toNat a) (wn p.toNat c.toNat b))) ∧ (wrongN p c [a, b] ≠ 0 → r = false)
theorem like_has (a b : ByteArray) (p c : Int) : ∃ r, LikeIs a b p c r := by
  by_cases h : wrongN p c [a, b] = 0
  · by_cases hm : Mt (wn p.toNat c.toNat a) (wn p.toNat c.toNat b)
    · exact ⟨true, fun _ => ⟨fun _ => hm, fun _ => rfl⟩, fun q => absurd h q⟩
    · exact ⟨false, fun _ => ⟨fun q => absurd q (by simp), fun q => absurd q hm⟩, fun _ => rfl⟩
  · exact ⟨false, fun q => absurd q h, fun _ => rfl⟩
def KRes (w : World) (r : Bool) (n : Int) (e : Ending) (w' : World) : Prop := e = .returned (.tuple #[.bool r, .int .i64 n]) ∧ Below w.heap.size w w'

set_option maxHeartbeats 2000000 in
theorem Like_any (s t : ByteArray) (p c : Int) (r : Bool) (hr : LikeIs s t p c r) (w : World) (ht : Tabs w) (hs : s.size ≤ maxLen) (hs' : t.size ≤ maxLen) :
    Calls Tryd.prog 34 #[.string s, .string t, .int .i64 p, .int .i64 c] w (KRes w r (wrongN p c [s, t])) := by
  have HT := Lib.hid ht; clear ht
  have hss2 : ∀ x ∈ [s, t], x.size ≤ maxLen := by simp [hs, hs']
  cases hz : decide (wrongN p c [s, t] = 0)
  · have hz : ¬ wrongN p c [s, t] = 0 := by simpa using hz
    obtain rfl := hr.2 hz
    have hcon := Lib.hid (wrong_any p c [s, t])
    simp only [List.length_cons, List.length_nil, Nat.zero_add, Nat.reduceAdd] at hcon
    clear hr
    generalize wrongN p c [s, t] = n at *
    have dn : (n != 0) = true := by simpa using hz
    clear hz
    go_enter Tryd.func34, Tryd.ntmps34
    go_wp2_with fail
    refine (hcon.out ⟨w.heap.size, 0, none⟩ 2 _ (by simp) hss2 (text_cells2 w s t)).mono ?_
    rintro e w1 ⟨rfl, rfl⟩
    go_wp2_with fail
    go_ret2
    exact ⟨rfl, (Below.refl _ _).alloc (Nat.le_refl _) _⟩
  · have hz : wrongN p c [s, t] = 0 := by simpa using hz
    have hrr := hr.1 hz
    obtain ⟨hp0, hp3, hc01, hss⟩ := wrong_zero hz
    have hs2 : s.size ≤ 2048 := hss s (by simp)
    have hs3 : t.size ≤ 2048 := hss t (by simp)
    obtain ⟨q, rfl⟩ : ∃ q : Nat, p = q := ⟨p.toNat, by omega⟩
    obtain ⟨d, rfl⟩ : ∃ d : Nat, c = d := ⟨c.toNat, by omega⟩
    have hq : q < 3 := by omega
    have hd : d < 2 := by omega
    rw [hz]
    have hcon := Lib.hid (wrong_any q d [s, t])
    rw [hz] at hcon
    simp only [List.length_cons, List.length_nil, Nat.zero_add, Nat.reduceAdd] at hcon
    have C1 := Lib.hid (fun W h => weights_any s q d hq hd W h (by omega))
    have C2 := Lib.hid (fun W h => weights_any t q d hq hd W h (by omega))
    have hlk : r = true ↔ Mt (sb (mapS (weiN q d) s)) (sb (mapS (weiN q d) t)) := by
      rw [sb_map fun b hb => wei_lt hb hq hd, sb_map fun b hb => wei_lt hb hq hd]
      exact hrr
    have C3 := Lib.hid (fun W => like_any (mapS (weiN q d) s) (mapS (weiN q d) t) (by rw [mapS_size]; omega) (by rw [mapS_size]; omega) r hlk W)
    clear hlk hrr hr
    generalize mapS (weiN q d) s = a at *
    generalize mapS (weiN q d) t = b at *
    clear hz hp0 hp3 hss hc01
    go_enter Tryd.func34, Tryd.ntmps34
    go_wp2_with fail
    refine (hcon.out ⟨w.heap.size, 0, none⟩ 2 _ (by simp) hss2 (text_cells2 w s t)).mono ?_
    rintro e w1 ⟨rfl, rfl⟩
    go_wp2_with fail
    have hb0 : Below w.heap.size w (w.alloc (.cells #[.string s, .string t] 9)) := (Below.refl _ _).alloc (Nat.le_refl _) _
    have HB0 := Lib.hid hb0; clear hb0
    have HT0 := Lib.hid (HT.out.below HB0.out (Nat.le_refl _))
    generalize w.alloc (.cells #[.string s, .string t] 9) = w0 at *
    refine (C1.out _ HT0.out).mono ?_
    rintro e w1 ⟨rfl, hb1⟩
    have HT1 := Lib.hid (HT0.out.below hb1 (Nat.le_refl _))
    have HB1 := Lib.hid (HB0.out.trans (hb1.mono HB0.out.size)); clear hb1
    go_wp2_with fail
    refine (C2.out _ HT1.out).mono ?_
    rintro e w2 ⟨rfl, hb2⟩
    have HB2 := Lib.hid (HB1.out.trans (hb2.mono HB1.out.size)); clear hb2
    go_wp2_with fail
    refine (C3.out _).mono ?_
    rintro e w3 ⟨rfl, rfl⟩
    go_wp2_with fail
    go_ret2
    exact ⟨rfl, HB2.out⟩
end Go.Proofs.YtgeikbcfjidgcaaDoor
