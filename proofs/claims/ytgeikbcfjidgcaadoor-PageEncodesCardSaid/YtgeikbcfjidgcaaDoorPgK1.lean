/- like of the program. -/
import Derived.Test.YtgeikbcfjidgcaaDoorLikeM
import Derived.Test.YtgeikbcfjidgcaaDoorPgQ
import Derived.Test.YtgeikbcfjidgcaaDoorPgJ
import Derived.WalkMore
namespace Go.Proofs.YtgeikbcfjidgcaaDoor
open Go.RowKit
set_option linter.unusedVariables false
set_option linter.unusedSimpArgs false

theorem sb_at (a : ByteArray) {k : Nat} (h : k < a.size) : a[k].toNat = (sb a).getD k 0 := by
  have hl : k < (sb a).length := by rw [sb_len]; exact h
  rw [byte_at a k h]
  have hl2 : k < a.data.toList.length := h
  rw [List.getD_eq_getElem?_getD, List.getD_eq_getElem?_getD, List.getElem?_eq_getElem hl, List.getElem?_eq_getElem hl2]
  simp [sb]
def starV : Option Nat → Int
  | none => -1
  | some g => g
theorem meas1 {P T p f p' f' : Nat} (hp : p < P) (hp' : p' = p + 1) (hf : f ≤ f') (hT : f' ≤ T) : (T + 1 - f') * (P + 1) + (P - p') < (T + 1 - f) * (P + 1) + (P - p) := by
  have := Nat.mul_le_mul_right (P + 1) (show T + 1 - f' ≤ T + 1 - f by omega)
  omega
theorem meas2 {P T p f p' : Nat} (hf : f < T) : (T + 1 - (f + 1)) * (P + 1) + (P - p') < (T + 1 - f) * (P + 1) + (P - p) := by
  have e : T + 1 - f = (T + 1 - (f + 1)) + 1 := by omega
  rw [e, Nat.add_mul, Nat.one_mul]
  omega

set_option maxHeartbeats 8000000 in
theorem like_any (a b : ByteArray) (ha : a.size ≤ 100000) (hb : b.size ≤ 100000) (r : Bool) (hr : r = true ↔ Mt (sb a) (sb b)) (w : World) :
    Calls Tryd.prog 61 #[.string a, .string b] w fun e w' => e = .returned (.bool r) ∧ w = w' := by
  have LA := Lib.hid (sb_len a)
  have LB := Lib.hid (sb_len b)
  have AA := Lib.hid (fun (k : Nat) (h : k < a.size) => sb_at a h)
  have AB := Lib.hid (fun (k : Nat) (h : k < b.size) => sb_at b h)
  have HR := Lib.hid hr; clear hr
  generalize sb a = P at *
  generalize sb b = T at *
  go_enter Tryd.func61, Tryd.ntmps61
  go_wp2_with fail
  go_step3
  go_wp2_with fail
  go_step3
  go_wp2_with fail
  go_loop [5, 6, 7, 8] (fun pv sv fv iv => ∃ (p i f : Nat) (g : Option Nat), pv = .int .i64 p ∧ sv = .int .i64 (starV g) ∧ fv = .int .i64 f ∧ iv = .int .i64 i ∧ Hid (St P T p i g f)) (fun pv _ fv _ => (T.length + 1 - (intOf fv).toNat) * (P.length + 1) + (P.length - (intOf pv).toNat))
  case atStart => exact ⟨0, 0, 0, none, rfl, rfl, rfl, rfl, Lib.hid ⟨by omega, by omega, rfl, by simp⟩⟩
  case round =>
    obtain ⟨p, i, f, g, rfl, rfl, rfl, rfl, HS⟩ := hrel
    obtain ⟨l1, l2, l3⟩ := HS.out.le
    have la := LA.out
    have lb := LB.out
    by_cases hi : i < b.size
    · have gi : (i : Int) < b.size := by omega
      have hbi := AB.out i hi
      by_cases hp : p < a.size
      · have gp : (p : Int) < a.size := by omega
        have hap := AA.out p hp
        generalize hce : P.getD p 0 = c at *
        generalize hxe : T.getD i 0 = x at *
        by_cases h42 : c = 42
        · have HN := Lib.hid (HS.out.star (by omega) (hce.trans h42))
          have g1 : ((c : Int) == 42) = true := by simp; omega
          have HCE := Lib.hid hce; have HXE := Lib.hid hxe; clear hce hxe h42
          go_wp2_with fail
          exact ⟨⟨p + 1, i, i, some p, rfl, rfl, rfl, rfl, HN⟩, by
            have hfi : f ≤ i := by
              cases g with
              | none => have := HS.out.2.2.1; omega
              | some g => exact Back.fi HS.out
            simp only [intOf]
            exact meas1 (by omega) (by omega) (by omega) (by omega)⟩
        · have g1 : ((c : Int) == 42) = false := by simp; omega
          by_cases h63 : c = 63
          · have HN := Lib.hid (HS.out.next (by omega) (by omega) (by omega) (.inl (hce.trans h63)))
            have g2 : ((c : Int) == 63) = true := by simp; omega
            have HCE := Lib.hid hce; have HXE := Lib.hid hxe; clear hce hxe h42 h63
            go_wp2_with fail
            exact ⟨⟨p + 1, i + 1, f, g, rfl, rfl, rfl, rfl, HN⟩, by
              simp only [intOf]
              exact meas1 (by omega) (by omega) (by omega) (by omega)⟩
          · have g2 : ((c : Int) == 63) = false := by simp; omega
            by_cases hcx : c = x
            · have HN := Lib.hid (HS.out.next (by omega) (by omega) (by omega) (.inr (by omega)))
              have g3 : ((c : Int) == (x : Int)) = true := by simp; omega
              have HCE := Lib.hid hce; have HXE := Lib.hid hxe; clear hce hxe h42 h63 hcx
              go_wp2_with fail
              exact ⟨⟨p + 1, i + 1, f, g, rfl, rfl, rfl, rfl, HN⟩, by
                simp only [intOf]
                exact meas1 (by omega) (by omega) (by omega) (by omega)⟩
            · have g3 : ((c : Int) == (x : Int)) = false := by simp; omega
              have hno := no_fit (P := P) (T := T) (p := p) (i := i) (by omega) (.inr ⟨by omega, by omega, by omega, by omega⟩)
              have HNO := Lib.hid hno; clear hno
              have HCE := Lib.hid hce; have HXE := Lib.hid hxe; clear hce hxe h42 h63 hcx
              cases g with
              | none =>
                have hrf : r = false := by
                  cases r
                  · rfl
                  · exact absurd (HR.out.1 rfl) (HS.out.fail (by omega) HNO.out)
                subst hrf
                simp only [starV]
                go_wp2_with fail
                (try rw [Exit.noGoto_ret])
                go_ret
                exact ⟨rfl, rfl⟩
              | some g =>
                have HN := Lib.hid (HS.out.back (by omega) HNO.out)
                have hsg : starV (some g) = (g : Int) := rfl
                have hfi : f ≤ i := Back.fi HS.out
                have hgp : g < p := Back.gp HS.out
                rw [hsg]
                have g4 : ¬ (g : Int) < 0 := by omega
                go_wp2_with fail
                exact ⟨⟨g + 1, f + 1, f + 1, some g, rfl, rfl, rfl, rfl, HN⟩, by
                  simp only [intOf]
                  exact meas2 (by omega)⟩
      · have gp : ¬ (p : Int) < a.size := by omega
        have hno := no_fit (P := P) (T := T) (p := p) (i := i) (by omega) (.inl (by omega))
        have HNO := Lib.hid hno; clear hno
        cases g with
        | none =>
          have hrf : r = false := by
            cases r
            · rfl
            · exact absurd (HR.out.1 rfl) (HS.out.fail (by omega) HNO.out)
          subst hrf
          simp only [starV]
          go_wp2_with fail
          (try rw [Exit.noGoto_ret])
          go_ret
          exact ⟨rfl, rfl⟩
        | some g =>
          have HN := Lib.hid (HS.out.back (by omega) HNO.out)
          have hsg : starV (some g) = (g : Int) := rfl
          have hfi : f ≤ i := Back.fi HS.out
          have hgp : g < p := Back.gp HS.out
          rw [hsg]
          have g4 : ¬ (g : Int) < 0 := by omega
          go_wp2_with fail
          exact ⟨⟨g + 1, f + 1, f + 1, some g, rfl, rfl, rfl, rfl, HN⟩, by
            simp only [intOf]
            exact meas2 (by omega)⟩
    · have gi : ¬ (i : Int) < b.size := by omega
      have hie : i = T.length := by omega
      subst hie
      have HD := Lib.hid (HS.out.done)
      have HRR : Hid (r = true ↔ ∀ x ∈ P.drop p, x = 42) := Lib.hid (HR.out.trans HD.out)
      clear HS HD HR
      go_wp2_with fail
      go_loop [5] (fun pv => ∃ p : Nat, pv = .int .i64 p ∧ p ≤ P.length ∧ Hid (r = true ↔ ∀ x ∈ P.drop p, x = 42)) (fun pv => P.length - (intOf pv).toNat)
      case atStart => exact ⟨p, rfl, by omega, HRR⟩
      case round =>
        obtain ⟨k, rfl, hk, HK⟩ := hrel
        by_cases hka : k < a.size
        · have gk : (k : Int) < a.size := by omega
          have hak := AA.out k hka
          have hd := drop_at8 (l := P) (k := k) (by omega)
          generalize P.getD k 0 = c at *
          by_cases h42 : c = 42
          · have g1 : ((c : Int) == 42) = true := by simp; omega
            have HK2 : Hid (r = true ↔ ∀ x ∈ P.drop (k + 1), x = 42) := Lib.hid (HK.out.trans (by
              rw [hd]
              constructor
              · intro h x hx; exact h x (by simp [hx])
              · intro h x hx
                rcases List.mem_cons.1 hx with q | q
                · omega
                · exact h x q))
            have HDD := Lib.hid hd; clear hd h42
            go_wp2_with fail
            exact ⟨⟨k + 1, rfl, by omega, HK2⟩, by simp only [intOf]; omega⟩
          · have g1 : ((c : Int) == 42) = false := by simp; omega
            have hrf : r = false := by
              cases r
              · rfl
              · exact absurd (HK.out.1 rfl c (by rw [hd]; simp)) h42
            subst hrf
            have g2 : ((k : Int) == a.size) = false := by simp; omega
            have HDD := Lib.hid hd; clear hd h42
            go_wp2_with fail
            (try rw [Exit.noGoto_ret])
            go_ret
            exact ⟨rfl, rfl⟩
        · have gk : ¬ (k : Int) < a.size := by omega
          have hrt : r = true := HK.out.2 (by rw [List.drop_eq_nil_of_le (by omega)]; simp)
          subst hrt
          have g2 : ((k : Int) == a.size) = true := by simp; omega
          go_wp2_with fail
          (try rw [Exit.noGoto_ret])
          go_ret
          exact ⟨rfl, rfl⟩
end Go.Proofs.YtgeikbcfjidgcaaDoor
