/- isSet of the program: ascending numbers from 1 to n. -/
import Derived.Test.YtoldjpnkgdhpkaaW
import Derived.Test.YtoldjpnkgdhpkaaBitsQ
import Derived.WalkKit
import Derived.LoopTactic
import Derived.Outline
import Derived.Lib.Hide
import Derived.Deep.QuietTactic
import Derived.BigQuiet
namespace Go.Proofs.Ytoldjpnkgdhpkaa
open Go.RowKit
set_option linter.unusedVariables false

/-- Numbers of 64 bits. -/
def Is64 (zs : List Int) : Prop := ∀ z ∈ zs, -9223372036854775808 ≤ z ∧ z ≤ 9223372036854775807
theorem Is64.at_ {zs : List Int} (h : Is64 zs) {k : Nat} (hk : k < zs.length) : -9223372036854775808 ≤ zs.getD k 0 ∧ zs.getD k 0 ≤ 9223372036854775807 :=
  h _ (by rw [List.getD, List.getElem?_eq_getElem hk]; exact List.getElem_mem hk)

/-- The number before place k. -/
def prevOf (zs : List Int) (k : Nat) : Int := if k = 0 then 0 else zs.getD (k - 1) 0
theorem drop_at (zs : List Int) {k : Nat} (hk : k < zs.length) : zs.drop k = zs.getD k 0 :: zs.drop (k + 1) := by
  rw [List.drop_eq_getElem_cons hk, List.getD, List.getElem?_eq_getElem hk]; rfl
theorem setFrom_at (n : Int) (zs : List Int) {k : Nat} (hk : k < zs.length) :
    setFrom (prevOf zs k) n (zs.drop k) = (decide (prevOf zs k < zs.getD k 0) && decide (zs.getD k 0 ≤ n) && setFrom (prevOf zs (k + 1)) n (zs.drop (k + 1))) := by
  rw [drop_at zs hk, setFrom]; rfl

theorem ret_b {a b : Bool} (h : a = b) : Ending.returned (.bool a) = .returned (.bool b) := by rw [h]
theorem set_no {S T r : Bool} {p x n : Int} (hs : S = T) (he : T = (decide (p < x) && decide (x ≤ n) && r)) (h : p < x → x ≤ n → False) : Ending.returned (.bool false) = .returned (.bool S) := by
  rw [hs, he]
  by_cases h1 : p < x
  · by_cases h2 : x ≤ n
    · exact (h h1 h2).elim
    · simp [h2]
  · simp [h1]
theorem set_go {S T r : Bool} {p x n : Int} (hs : S = T) (he : T = (decide (p < x) && decide (x ≤ n) && r)) (h1 : p < x) (h2 : x ≤ n) : S = r := by
  rw [hs, he]; simp [h1, h2]
theorem prev_cases (zs : List Int) (k : Nat) : (k = 0 ∧ prevOf zs k = 0) ∨ (0 < k ∧ prevOf zs k = zs[k - 1]?.getD 0) := by
  unfold prevOf; split
  · exact .inl ⟨by assumption, rfl⟩
  · exact .inr ⟨by omega, rfl⟩

set_option maxHeartbeats 1000000 in
theorem isSet_any (A : Option Addr) (c : Nat) (zs : List Int) (n : Int) (w : World) (B : Nat) (hr : Rd w B .i64 A zs) (hb : Is64 zs) (hm : zs.length ≤ 9223372036854775807) :
    Calls Try.prog 53 #[.slice A zs.length c, .int .i64 n] w fun e w' => e = .returned (.bool (isSetB n zs)) ∧ w = w' := by
  have HB := Lib.hid hb; clear hb
  have HR := Lib.hid hr; clear hr
  go_enter Try.func53, Try.ntmps53
  go_wp2
  go_loop [9] (fun i => ∃ k : Nat, k ≤ zs.length ∧ i = .int .i64 k ∧ isSetB n zs = setFrom (prevOf zs k) n (zs.drop k) ∧ 0 ≤ prevOf zs k) (fun i => zs.length - (intOf i).toNat)
  case atStart => exact ⟨0, by omega, rfl, by simp [isSetB, prevOf], by simp [prevOf]⟩
  case round =>
    obtain ⟨k, hk, rfl, hs, hp⟩ := hrel
    have HS := Lib.hid hs; clear hs
    by_cases hlt : k < zs.length
    · obtain ⟨ad, rfl, _, hc⟩ := HR.out (by omega)
      have hx := HB.out.at_ hlt
      have hck := hc k hlt
      have hck1 : 0 < k → w.cell? (ad.add (k - 1)) = some (.int .i64 (zs.getD (k - 1) 0)) := fun h => hc (k - 1) (by omega)
      have HC := Lib.hid hc; clear hc
      have he := setFrom_at n zs hlt
      have HE := Lib.hid he; clear he
      have hpv : prevOf zs (k + 1) = zs.getD k 0 := by simp [prevOf]
      have HPV := Lib.hid hpv; clear hpv
      have hpp := prev_cases zs k
      have HPP := Lib.hid hpp; clear hpp
      generalize zs.getD k 0 = x at *
      go_wp2
      all_goals first
        | (go_ret
           exact ⟨set_no HS.out HE.out (fun _ _ => by have := HPP.out; omega), rfl⟩)
        | (go_round
           case rel => exact ⟨k + 1, by omega, by go_num, set_go HS.out HE.out (by have := HPP.out; omega) (by omega), by rw [HPV.out]; omega⟩
           case measure => simp [intOf]; omega)
    · have hkl : k = zs.length := by omega
      have HK := Lib.hid hkl; clear hkl
      go_wp2
      go_ret
      exact ⟨ret_b (by rw [HS.out, List.drop_of_length_le (by have := HK.out; omega)]; rfl), rfl⟩
end Go.Proofs.Ytoldjpnkgdhpkaa
