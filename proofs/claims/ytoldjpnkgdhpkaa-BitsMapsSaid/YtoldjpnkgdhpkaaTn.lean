/- takeNumber of the program. -/
import Derived.Test.YtoldjpnkgdhpkaaTk
namespace Go.Proofs.Ytoldjpnkgdhpkaa
open Go.RowKit
set_option linter.unusedVariables false
set_option linter.unusedSimpArgs false

def TkRes (w : World) (B : Nat) (bs : List Int) (e : Ending) (w' : World) : Prop :=
  Dr w w' ∧ match takeL bs with
    | none => e = .returned (.tuple #[.int .i64 0, .slice none 0 0, .bool false])
    | some (g, r) => ∃ (A : Option Addr) (c : Nat), e = .returned (.tuple #[.int .i64 g, .slice A r.length c, .bool true]) ∧ Rd w B .u8 A r ∧ r.length ≤ c ∧ c ≤ 9223372036854775807
theorem TkRes.none {w w' : World} {B : Nat} {bs : List Int} {e : Ending} (h : takeL bs = none) (he : e = .returned (.tuple #[.int .i64 0, .slice none 0 0, .bool false])) (hd : Dr w w') : TkRes w B bs e w' := by
  unfold TkRes; rw [h]; exact ⟨hd, he⟩
theorem TkRes.some {w w' : World} {B : Nat} {bs : List Int} {e : Ending} {g : Int} {r : List Int} {A : Option Addr} {c n : Nat} (h : takeL bs = some (g, r)) (hn : n = r.length) (he : e = .returned (.tuple #[.int .i64 g, .slice A n c, .bool true])) (hr : Rd w B .u8 A r) (hc : r.length ≤ c) (hm : c ≤ 9223372036854775807) (hd : Dr w w') : TkRes w B bs e w' := by
  unfold TkRes; rw [h]; subst hn; exact ⟨hd, A, c, he, hr, hc, hm⟩

set_option maxHeartbeats 2000000 in
theorem takeNumber_any (A : Option Addr) (c : Nat) (bs : List Int) (w : World) (B : Nat) (hr : Rd w B .u8 A bs) (hl : bs.length ≤ 3000) (hok : bytesI bs) (hcap : bs.length ≤ c) (hmax : c ≤ 9223372036854775807) :
    Calls Try.prog 64 #[.slice A bs.length c] w (TkRes w B bs) := by
  rcases Nat.eq_zero_or_pos bs.length with h0 | h0
  · have HN := Lib.hid (take_nil h0)
    have HE := Lib.hid h0
    rw [h0]
    clear hr hok hl h0 hcap
    go_enter Try.func64, Try.ntmps64
    go_wp2_with fail
    refine bodyPost_ret (v := .tuple #[.int .i64 0, .slice none 0 0, .bool false]) (by simp [results, Try.results64, go_sem]) rfl (.none HN.out rfl ⟨0, rfl⟩)
  · have HR := Lib.hid hr
    obtain ⟨ad, rfl, _, hc⟩ := hr h0
    have hc0 := hc 0 h0
    rw [plus_zero] at hc0
    have hm0 : 0 ≤ bs.getD 0 0 ∧ bs.getD 0 0 ≤ 255 := by
      rw [List.getD_eq_getElem?_getD, List.getElem?_eq_getElem h0]; exact hok _ (List.getElem_mem h0)
    have i0 : (0 : Int) < bs.length := by omega
    have i1 : (1 : Int) ≤ bs.length := by omega
    have i2 : (bs.length : Int) ≤ c := by omega
    by_cases hx : bs.getD 0 0 < 128
    · have HN := Lib.hid (take_small h0 hx)
      have HC := Lib.hid (HR.out.cut (c := c) 1 (by omega) hcap)
      clear hc hok
      generalize bs.getD 0 0 = x at *
      by_cases hc1 : c = 1
      · subst hc1
        go_enter Try.func64, Try.ntmps64
        go_wp2_with fail
        go_quiet (fail)
        go_wp2_with fail
        refine bodyPost_ret (v := .tuple #[.int .i64 x, .slice (some ad) 0 0, .bool true]) (by simp [results, Try.results64, go_sem]; try omega) rfl ?_
        exact .some HN.out (by rw [List.length_drop]; omega) rfl (by simpa using HC.out) (by rw [List.length_drop]; omega) (by omega) ⟨_, rfl⟩
      · go_enter Try.func64, Try.ntmps64
        go_wp2_with fail
        go_quiet (fail)
        go_wp2_with fail
        refine bodyPost_ret (v := .tuple #[.int .i64 x, .slice (some ⟨ad.block, ad.off + 1, none⟩) (bs.length - 1) (c - 1), .bool true]) (by simp [results, Try.results64, go_sem]) rfl ?_
        exact .some HN.out (by simp) rfl (by simpa [hc1, Addr.add] using HC.out) (by simp; omega) (by omega) ⟨_, rfl⟩
    · by_cases h1 : bs.length = 1
      · have HN := Lib.hid (take_one h1 hx)
        have z1 : ¬ (1 : Int) < bs.length := by omega
        clear hc hok
        generalize bs.getD 0 0 = x at *
        go_enter Try.func64, Try.ntmps64
        go_wp2_with fail
        refine bodyPost_ret (v := .tuple #[.int .i64 0, .slice none 0 0, .bool false]) (by simp [results, Try.results64, go_sem]) rfl (.none HN.out rfl ⟨0, rfl⟩)
      · have hc1 : w.cell? ⟨ad.block, ad.off + 1, none⟩ = some (.int .u8 (bs.getD 1 0)) := by simpa [Addr.add] using hc 1 (by omega)
        have hm1 : 0 ≤ bs.getD 1 0 ∧ bs.getD 1 0 ≤ 255 := by
          rw [List.getD_eq_getElem?_getD, List.getElem?_eq_getElem (show 1 < bs.length by omega)]; exact hok _ (List.getElem_mem _)
        have HN := Lib.hid (take_big (show 1 < bs.length by omega) hx)
        have HC := Lib.hid (HR.out.cut (c := c) 2 (by omega) hcap)
        have i3 : (1 : Int) < bs.length := by omega
        have i4 : (2 : Int) ≤ bs.length := by omega
        clear hc hok
        generalize bs.getD 0 0 = x at *
        generalize bs.getD 1 0 = y at *
        by_cases hc2 : c = 2
        · subst hc2
          go_enter Try.func64, Try.ntmps64
          go_wp2_with fail
          go_quiet (fail)
          go_wp2_with fail
          refine bodyPost_ret (v := .tuple #[.int .i64 (x - 128 + 128 * y), .slice (some ad) 0 0, .bool true]) (by simp [results, Try.results64, go_sem]; try omega) rfl ?_
          exact .some HN.out (by rw [List.length_drop]; omega) rfl (by simpa using HC.out) (by rw [List.length_drop]; omega) (by omega) ⟨_, rfl⟩
        · go_enter Try.func64, Try.ntmps64
          go_wp2_with fail
          go_quiet (fail)
          go_wp2_with fail
          refine bodyPost_ret (v := .tuple #[.int .i64 (x - 128 + 128 * y), .slice (some ⟨ad.block, ad.off + 2, none⟩) (bs.length - 2) (c - 2), .bool true]) (by simp [results, Try.results64, go_sem]) rfl ?_
          exact .some HN.out (by simp) rfl (by simpa [hc2, Addr.add] using HC.out) (by simp; omega) (by omega) ⟨_, rfl⟩
end Go.Proofs.Ytoldjpnkgdhpkaa
