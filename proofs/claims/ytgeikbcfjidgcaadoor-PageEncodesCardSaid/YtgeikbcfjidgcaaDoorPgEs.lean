/- The characters of a text, and the bytes that they are on a page. -/
import Derived.Test.YtgeikbcfjidgcaaDoorPgEr
import Derived.Test.YtgeikbcfjidgcaaDoorPgC4
import Derived.Lib.TrimU
namespace Go.Proofs.YtgeikbcfjidgcaaDoor
open Go.RowKit
set_option linter.unusedVariables false

def rnsF (s : ByteArray) : Nat → Nat → List Int
  | 0, _ => []
  | b + 1, i => if i < s.size then ((Utf8.decode s i).1 : Int) :: rnsF s b (i + (Utf8.decode s i).2) else []
def rns (s : ByteArray) : List Int := rnsF s s.size 0
theorem runes_eq (s : ByteArray) : ∀ (b i : Nat) (acc : Array Value), Conv.runesFrom s b i acc = acc ++ ((rnsF s b i).map (Value.int .i32)).toArray
  | 0, _, acc => by simp [Conv.runesFrom, rnsF]
  | b + 1, i, acc => by
    unfold Conv.runesFrom rnsF
    by_cases h : i < s.size
    · simp only [h, if_true]
      rw [runes_eq s b]
      simp
    · simp [h]
theorem rnsF_end (s : ByteArray) (b i : Nat) (h : ¬ i < s.size) : rnsF s b i = [] := by
  cases b with
  | zero => rfl
  | succ b => simp [rnsF, h]
theorem rnsF_step (s : ByteArray) (b i : Nat) (h : i < s.size) : rnsF s (b + 1) i = ((Utf8.decode s i).1 : Int) :: rnsF s b (i + (Utf8.decode s i).2) := by
  rw [rnsF, if_pos h]
theorem rnsF_len (s : ByteArray) : ∀ b i, (rnsF s b i).length ≤ s.size - i
  | 0, _ => by simp [rnsF]
  | b + 1, i => by
    by_cases h : i < s.size
    · rw [rnsF_step s b i h, List.length_cons]
      have h1 := rnsF_len s b (i + (Utf8.decode s i).2)
      have h2 := Lib.width_pos s i
      omega
    · rw [rnsF_end s _ i h]; simp
theorem rns_len (s : ByteArray) : (rns s).length ≤ s.size := rnsF_len s _ 0
theorem rnsF_range (s : ByteArray) : ∀ b i, ∀ c ∈ rnsF s b i, 0 ≤ c ∧ c ≤ 1114111
  | 0, _ => by simp [rnsF]
  | b + 1, i => by
    by_cases h : i < s.size
    · rw [rnsF_step s b i h]
      intro c hc
      rcases List.mem_cons.1 hc with rfl | hc
      · have := Lib.rune_le s i; omega
      · exact rnsF_range s b _ c hc
    · rw [rnsF_end s _ i h]; simp
theorem rns_range (s : ByteArray) {k : Nat} (h : k < (rns s).length) : 0 ≤ (rns s).getD k 0 ∧ (rns s).getD k 0 ≤ 1114111 := by
  have e : (rns s).getD k 0 = (rns s)[k] := by simp [List.getD, h]
  rw [e]
  exact rnsF_range s _ 0 _ (List.getElem_mem _)
def encV (p : Nat) (l : List Int) : Bool := l.all fun c => (byI p c).isSome
def encB (p : Nat) (l : List Int) : List Int := l.map fun c => (byI p c).getD 0
theorem encB_len (p : Nat) (l : List Int) : (encB p l).length = l.length := by simp [encB]
theorem encV_snoc (p : Nat) (l : List Int) (c : Int) : encV p (l ++ [c]) = (encV p l && (byI p c).isSome) := by simp [encV]
theorem encB_snoc (p : Nat) (l : List Int) (c : Int) : encB p (l ++ [c]) = encB p l ++ [(byI p c).getD 0] := by simp [encB]
theorem encV_no (p : Nat) (l m : List Int) (c : Int) (h : (byI p c).isSome = false) : encV p (l ++ c :: m) = false := by simp [encV, h]
theorem takeI {l : List Int} {k : Nat} (h : k < l.length) : l.take (k + 1) = l.take k ++ [l.getD k 0] := by
  rw [List.take_succ_eq_append_getElem h]; simp [List.getD, h]
theorem splitI {l : List Int} {k : Nat} (h : k < l.length) : l = l.take k ++ l.getD k 0 :: l.drop (k + 1) := by
  have e : l.getD k 0 = l[k] := by simp [List.getD, h]
  rw [e]; simp
def ecN (s : ByteArray) (p : Nat) : Int := if Lib.validD s.data.toList = true then (if encV p (rns s) = true then (if 2048 < (rns s).length then 3 else 0) else 10) else 2
def ecE (s : ByteArray) (p : Int) : Int := if askedN 6144 [s] 0 [p] = 0 then ecN s p.toNat else askedN 6144 [s] 0 [p]
def ecT (s : ByteArray) (p : Int) : ByteArray := if ecE s p = 0 then strOfNums (encB p.toNat (rns s)) else ⟨#[]⟩
theorem asked_cases (s : ByteArray) (p : Int) : (6144 < s.size ∧ askedN 6144 [s] 0 [p] = 3) ∨ (s.size ≤ 6144 ∧ ¬ (0 ≤ p ∧ p < 3) ∧ askedN 6144 [s] 0 [p] = 1) ∨ (s.size ≤ 6144 ∧ 0 ≤ p ∧ p < 3 ∧ askedN 6144 [s] 0 [p] = 0) := by
  unfold askedN
  simp only [List.any_cons, List.any_nil, Bool.or_false, decide_eq_true_eq, Bool.or_eq_true]
  by_cases h : (6144 : Int) < (s.size : Int)
  · rw [if_pos h]; exact .inl ⟨by omega, rfl⟩
  · rw [if_neg h]
    by_cases hp : p < 0 ∨ 2 < p
    · rw [if_pos hp]; exact .inr (.inl ⟨by omega, by omega, rfl⟩)
    · rw [if_neg hp, if_pos (by simp)]; exact .inr (.inr ⟨by omega, by omega, by omega, rfl⟩)
theorem ecE_1 {s : ByteArray} {p : Int} (h : 6144 < s.size) : ecT s p = ⟨#[]⟩ ∧ ecE s p = 3 := by
  have e : ecE s p = 3 := by
    unfold ecE
    rcases asked_cases s p with ⟨_, k⟩ | ⟨a, _, _⟩ | ⟨a, _⟩
    · rw [k]; rfl
    · omega
    · omega
  exact ⟨by rw [ecT, e]; rfl, e⟩
theorem ecE_2 {s : ByteArray} {p : Int} (h : s.size ≤ 6144) (hp : ¬ (0 ≤ p ∧ p < 3)) : ecT s p = ⟨#[]⟩ ∧ ecE s p = 1 := by
  have e : ecE s p = 1 := by
    unfold ecE
    rcases asked_cases s p with ⟨a, _⟩ | ⟨_, _, k⟩ | ⟨_, a, b, _⟩
    · omega
    · rw [k]; rfl
    · exact absurd ⟨a, b⟩ hp
  exact ⟨by rw [ecT, e]; rfl, e⟩
theorem ecE_3 {s : ByteArray} {q : Nat} (h : s.size ≤ 6144) (hp : q < 3) : ecE s q = ecN s q := by
  unfold ecE
  rcases asked_cases s q with ⟨a, _⟩ | ⟨_, a, _⟩ | ⟨_, _, _, k⟩
  · omega
  · omega
  · rw [if_pos k]; rfl
theorem ecN_bad {s : ByteArray} {q : Nat} (h : s.size ≤ 6144) (hp : q < 3) (hv : Lib.validD s.data.toList = false) : ecT s q = ⟨#[]⟩ ∧ ecE s q = 2 := by
  have e : ecE s q = 2 := by rw [ecE_3 h hp, ecN, hv]; rfl
  exact ⟨by rw [ecT, e]; rfl, e⟩
theorem ecN_fit {s : ByteArray} {q : Nat} (h : s.size ≤ 6144) (hp : q < 3) (hv : Lib.validD s.data.toList = true) (hf : encV q (rns s) = false) : ecT s q = ⟨#[]⟩ ∧ ecE s q = 10 := by
  have e : ecE s q = 10 := by rw [ecE_3 h hp, ecN, hv, hf]; rfl
  exact ⟨by rw [ecT, e]; rfl, e⟩
theorem ecN_large {s : ByteArray} {q : Nat} (h : s.size ≤ 6144) (hp : q < 3) (hv : Lib.validD s.data.toList = true) (hf : encV q (rns s) = true) (hl : 2048 < (rns s).length) : ecT s q = ⟨#[]⟩ ∧ ecE s q = 3 := by
  have e : ecE s q = 3 := by rw [ecE_3 h hp, ecN, hv, hf, if_pos rfl, if_pos rfl, if_pos hl]
  exact ⟨by rw [ecT, e]; rfl, e⟩
theorem ecN_ok {s : ByteArray} {q : Nat} (h : s.size ≤ 6144) (hp : q < 3) (hv : Lib.validD s.data.toList = true) (hf : encV q (rns s) = true) (hl : ¬ 2048 < (rns s).length) : ecT s q = strOfNums (encB q (rns s)) ∧ ecE s q = 0 := by
  have e : ecE s q = 0 := by rw [ecE_3 h hp, ecN, hv, hf, if_pos rfl, if_pos rfl, if_neg hl]
  exact ⟨by rw [ecT, e, if_pos rfl]; rfl, e⟩

/-- The characters of what Decode writes. -/
theorem rns_decS {p : Nat} (hp : p < 3) {l : List UInt8} (hv : vld p l = true) : ∀ (n k b : Nat), l.length - k = n → k ≤ l.length → (decS p l).size ≤ b + (decS p (l.take k)).size →
    rnsF (decS p l) b (decS p (l.take k)).size = (l.drop k).map fun u => (chI p u.toNat).getD 0
  | 0, k, b, hn, hk, hb => by
    have e : k = l.length := by omega
    subst e
    rw [List.take_length, List.drop_length, rnsF_end _ _ _ (by omega)]; rfl
  | n + 1, k, b, hn, hk, hb => by
    have hlt : k < l.length := by omega
    obtain ⟨d1, d2⟩ := dec_decS hp hv hlt
    have hw := Lib.width_pos (decS p l) (decS p (l.take k)).size
    have hle : (decS p (l.take (k + 1))).size ≤ (decS p l).size := by
      have := decS_append p (l.take (k + 1)) (l.drop (k + 1))
      rw [List.take_append_drop] at this
      rw [this, ByteArray.size_append]; omega
    obtain ⟨b', rfl⟩ : ∃ b', b = b' + 1 := ⟨b - 1, by omega⟩
    rw [rnsF_step _ _ _ (by omega), d2, rns_decS hp hv n (k + 1) b' (by omega) (by omega) (by omega), d1]
    have e : l.drop k = l.getD k 0 :: l.drop (k + 1) := by
      have e : l.getD k 0 = l[k] := by simp [List.getD, hlt]
      rw [e]; simp
    rw [e]; rfl
theorem rns_of {p : Nat} (hp : p < 3) {l : List UInt8} (hv : vld p l = true) : rns (decS p l) = l.map fun u => (chI p u.toNat).getD 0 := by
  have h := rns_decS hp hv l.length 0 (decS p l).size (by omega) (by omega) (by omega)
  have e : (decS p (l.take 0)).size = 0 := rfl
  rw [e, List.drop_zero] at h
  exact h
theorem strOf_id (s : ByteArray) : strOfNums (s.data.toList.map fun u => ((u.toNat : Nat) : Int)) = s := by
  rw [strOf_map (fun x => x) s]
  apply ByteArray.ext
  apply Array.toList_inj.1
  simp only [mapS]
  have e : (mapB fun x => x) = id := by funext b; simp [mapB]
  simp [e]
/-- Encode of what Decode writes is the text. -/
theorem back_of {s : ByteArray} {p : Int} (h : decE s p = 0) : ecT (decT s p) p = s ∧ ecE (decT s p) p = 0 := by
  by_cases hz : wrongN p 0 [s] = 0
  · obtain ⟨hp0, hp3, _, hss⟩ := wrong_zero hz
    have hs2 : s.size ≤ 2048 := hss s (by simp)
    obtain ⟨q, rfl⟩ : ∃ q : Nat, p = q := ⟨p.toNat, by omega⟩
    have hp : q < 3 := by omega
    by_cases hv : vld q s.data.toList = true
    · have e1 : decT s q = decS q s.data.toList := by simp [decT, hz, hv]
      rw [e1]
      have hl : s.data.toList.length = s.size := rfl
      have h3 := decS3_le hp s.data.toList s.data.toList.length (Nat.le_refl _)
      rw [List.take_length] at h3
      have hr := rns_of hp hv
      have hall : encV q (rns (decS q s.data.toList)) = true := by
        rw [hr]
        unfold encV
        rw [List.all_eq_true]
        intro c hc
        obtain ⟨u, hu, rfl⟩ := List.mem_map.1 hc
        have hsome : (chI q u.toNat).isSome = true := by
          unfold vld at hv
          exact List.all_eq_true.1 hv u hu
        obtain ⟨c, hc⟩ := Option.isSome_iff_exists.1 hsome
        rw [hc, Option.getD_some, byt_of_chr hp (byte_lt u) hc]; rfl
      have hb : encB q (rns (decS q s.data.toList)) = s.data.toList.map fun u => ((u.toNat : Nat) : Int) := by
        rw [hr]
        unfold encB
        rw [List.map_map]
        apply List.map_congr_left
        intro u hu
        have hsome : (chI q u.toNat).isSome = true := by
          unfold vld at hv
          exact List.all_eq_true.1 hv u hu
        obtain ⟨c, hc⟩ := Option.isSome_iff_exists.1 hsome
        show (byI q ((chI q u.toNat).getD 0)).getD 0 = _
        rw [hc, Option.getD_some, byt_of_chr hp (byte_lt u) hc]; rfl
      obtain ⟨r1, r2⟩ := ecN_ok (by omega) hp (valid_decS hp _ hv) hall (by rw [hr, List.length_map]; omega)
      exact ⟨by rw [r1, hb, strOf_id], r2⟩
    · exact absurd h (by simp [decE, hz, hv])
  · exact absurd h (by simp [decE, hz])
end Go.Proofs.YtgeikbcfjidgcaaDoor
