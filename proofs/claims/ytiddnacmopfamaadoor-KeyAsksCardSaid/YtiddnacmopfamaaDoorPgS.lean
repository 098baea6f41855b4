/- Sound of the program. -/
import Derived.Test.YtiddnacmopfamaaDoorPgO
namespace Go.Proofs.YtiddnacmopfamaaDoor
open Go.RowKit
set_option linter.unusedVariables false
set_option linter.unusedSimpArgs false

def sb (s : ByteArray) : List Nat := s.data.toList.map (·.toNat)
def sndT (s : ByteArray) : ByteArray := if wrongN 0 0 [s] = 0 then strOfNums ((sndL (sb s)).map Int.ofNat) else ⟨#[]⟩

/-- What holds of the state. -/
def SndI (st : List Nat × Int) : Prop := 0 ≤ st.2 ∧ st.2 ≤ 6 ∧ st.1.length ≤ 4 ∧ (st.1 = [] → st.2 = 0) ∧ ∀ x ∈ st.1, x < 256
theorem dig_in {c : Nat} (h1 : 65 ≤ c) (h2 : c ≤ 90) : -1 ≤ digI c ∧ digI c ≤ 6 := by
  have := dig_tab ⟨c - 65, by omega⟩
  rwa [show 65 + (⟨c - 65, by omega⟩ : Fin 26).val = c by simp; omega] at this
theorem sndI_step {st : List Nat × Int} {b : Nat} (h : SndI st) (hb : b < 256) : SndI (sndStep st b) := by
  obtain ⟨h1, h2, h3, h4, h5⟩ := h
  unfold sndStep
  split
  · rename_i hl
    obtain ⟨c1, c2⟩ := let0_tab ⟨b, hb⟩ hl
    simp only at c1 c2
    obtain ⟨d1, d2⟩ := dig_in c1 c2
    split
    · exact ⟨by simp only; omega, by simp only; omega, by simp, by simp, fun x hx => by simp at hx; omega⟩
    · split
      · exact ⟨h1, h2, h3, h4, h5⟩
      · split
        · rename_i hc
          refine ⟨by show 0 ≤ digI _; omega, by show digI _ ≤ 6; omega, by simp; omega, by simp, fun x hx => ?_⟩
          rcases List.mem_append.1 hx with hx | hx
          · exact h5 x hx
          · simp at hx; omega
        · rename_i hne _ _
          exact ⟨by simp only; omega, by simp only; omega, h3, fun e => absurd e hne, h5⟩
  · exact ⟨h1, h2, h3, h4, h5⟩
theorem sndI_go : ∀ (bs : List Nat) (st : List Nat × Int), SndI st → (∀ b ∈ bs, b < 256) → SndI (bs.foldl sndStep st)
  | [], st, h, _ => h
  | b :: bs, st, h, hb => sndI_go bs _ (sndI_step h (hb b (by simp))) (fun x hx => hb x (by simp [hx]))
theorem sb_lt (s : ByteArray) : ∀ b ∈ sb s, b < 256 := by
  intro b hb
  simp only [sb, List.mem_map] at hb
  obtain ⟨u, _, rfl⟩ := hb
  exact u.toNat_lt
theorem sb_len (s : ByteArray) : (sb s).length = s.size := by simp [sb]
theorem sndI_take (s : ByteArray) (k : Nat) : SndI (sndGo ((sb s).take k)) := sndI_go _ _ (by simp [SndI]) fun b hb => sb_lt s b (List.mem_of_mem_take hb)
theorem snd_take (s : ByteArray) {k : Nat} (hk : k < s.size) : sndGo ((sb s).take (k + 1)) = sndStep (sndGo ((sb s).take k)) (s[k].toNat) := by
  have hl : k < (sb s).length := by rw [sb_len]; exact hk
  rw [List.take_succ_eq_append_getElem hl]
  unfold sndGo
  rw [List.foldl_append]
  simp [sb]; rfl

theorem sound_tab : ∀ i : Fin 26, ((⟨#[48, 49, 50, 51, 48, 49, 50, 45, 48, 50, 50, 52, 53, 53, 48, 49, 50, 54, 50, 51, 48, 49, 45, 50, 48, 50]⟩ : ByteArray)[i.val]'i.isLt).toNat = (if digI (65 + i.val) = -1 then 45 else (48 + digI (65 + i.val)).toNat) := by decide +kernel
theorem sound_at (c : Nat) (h1 : 65 ≤ c) (h2 : c ≤ 90) : ∀ h, ((((⟨#[48, 49, 50, 51, 48, 49, 50, 45, 48, 50, 50, 52, 53, 53, 48, 49, 50, 54, 50, 51, 48, 49, 45, 50, 48, 50]⟩ : ByteArray)[c - 65]'h).toNat : Nat) : Int) = if digI c = -1 then 45 else 48 + digI c := by
  intro h
  have := sound_tab ⟨c - 65, by omega⟩
  simp only [show 65 + (c - 65) = c by omega] at this
  have hd := dig_in h1 h2
  rw [this]
  split
  · rfl
  · omega

def lenV : Value → Nat
  | .slice _ n _ => n
  | _ => 0
theorem lenV_slice (A : Option Addr) (n c : Nat) : lenV (.slice A n c) = n := rfl
end Go.Proofs.YtiddnacmopfamaaDoor
