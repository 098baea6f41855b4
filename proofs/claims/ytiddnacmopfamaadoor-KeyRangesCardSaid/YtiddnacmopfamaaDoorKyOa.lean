/- The order of keys: plain mathematics. -/
import Derived.Test.YtiddnacmopfamaaDoorKyBk
namespace Go.Proofs.YtiddnacmopfamaaDoor
open Go.RowKit
set_option linter.unusedVariables false
set_option linter.unusedSimpArgs false
set_option maxRecDepth 40000

/-- Neither list is a proper beginning of the other. -/
def apart : List UInt8 → List UInt8 → Prop
  | [], [] => True
  | [], _ :: _ => False
  | _ :: _, [] => False
  | a :: x, b :: y => a = b → apart x y
theorem apart_len : ∀ (a b : List UInt8), a.length = b.length → apart a b
  | [], [], _ => trivial
  | [], _ :: _, h => by simp at h
  | _ :: _, [], h => by simp at h
  | a :: x, b :: y, h => fun _ => apart_len x y (by simpa using h)
def inv8 (u : UInt8) : UInt8 := mapB (turnN true) u
theorem inv8_nat (u : UInt8) : (inv8 u).toNat = 255 - u.toNat := by
  unfold inv8 mapB
  have h : turnN true u.toNat = 255 - u.toNat := rfl
  rw [h]
  simp
  omega
theorem cmp_turn : ∀ (a b : List UInt8), apart a b → Lib.compareBytes (a.map inv8) (b.map inv8) = - Lib.compareBytes a b
  | [], [], _ => rfl
  | [], _ :: _, h => h.elim
  | _ :: _, [], h => h.elim
  | a :: x, b :: y, h => by
    rw [List.map_cons, List.map_cons, Lib.compareBytes, Lib.compareBytes]
    simp only [UInt8.lt_iff_toNat_lt, inv8_nat]
    have ha := byte_lt a
    have hb := byte_lt b
    by_cases h1 : a.toNat < b.toNat
    · rw [if_neg (by omega), if_pos (by omega), if_pos h1]; rfl
    · by_cases h2 : b.toNat < a.toNat
      · rw [if_pos (by omega), if_neg h1, if_pos h2]
      · have e : a = b := UInt8.toNat_inj.1 (by omega)
        rw [if_neg (by omega), if_neg (by omega), if_neg h1, if_neg h2]
        exact cmp_turn x y (h e)
theorem esc_zero (l : List UInt8) : esc (0 :: l) = 0 :: 1 :: esc l := by rw [esc_cons, if_pos rfl]; rfl
theorem esc_some {u : UInt8} (h : u ≠ 0) (l : List UInt8) : esc (u :: l) = u :: esc l := by rw [esc_cons, if_neg h]; rfl
theorem pos8 {u : UInt8} (h : u ≠ 0) : 0 < u.toNat := by
  rcases Nat.eq_zero_or_pos u.toNat with h0 | h0
  · exact absurd (UInt8.toNat_inj.1 h0) h
  · exact h0
theorem cmp_esc : ∀ (l m : List UInt8), Lib.compareBytes (esc l ++ [0, 0]) (esc m ++ [0, 0]) = Lib.compareBytes l m ∧ apart (esc l ++ [0, 0]) (esc m ++ [0, 0])
  | [], [] => ⟨by decide, fun _ _ => trivial⟩
  | [], v :: m => by
    by_cases hv : v = 0
    · subst hv
      rw [esc_zero]
      exact ⟨by simp [esc_nil, Lib.compareBytes], fun _ h => by cases h⟩
    · rw [esc_some hv]
      have := pos8 hv
      refine ⟨?_, fun h => absurd h.symm hv⟩
      simp only [esc_nil, List.nil_append, List.cons_append, Lib.compareBytes, UInt8.lt_iff_toNat_lt]
      rw [if_pos (by simpa using this)]
  | u :: l, [] => by
    by_cases hu : u = 0
    · subst hu
      rw [esc_zero]
      exact ⟨by simp [esc_nil, Lib.compareBytes], fun _ h => by cases h⟩
    · rw [esc_some hu]
      have := pos8 hu
      refine ⟨?_, fun h => absurd h hu⟩
      simp only [esc_nil, List.nil_append, List.cons_append, Lib.compareBytes, UInt8.lt_iff_toNat_lt]
      rw [if_neg (by simp), if_pos (by simpa using this)]
  | u :: l, v :: m => by
    obtain ⟨ih1, ih2⟩ := cmp_esc l m
    by_cases hu : u = 0
    · subst hu
      by_cases hv : v = 0
      · subst hv
        rw [esc_zero, esc_zero]
        refine ⟨?_, fun _ _ => ih2⟩
        simp only [List.cons_append, Lib.compareBytes]
        rw [if_neg (by decide), if_neg (by decide), if_neg (by decide), if_neg (by decide), if_neg (by decide), if_neg (by decide), ih1]
      · rw [esc_zero, esc_some hv]
        have := pos8 hv
        refine ⟨?_, fun h => absurd h.symm hv⟩
        simp only [List.cons_append, Lib.compareBytes, UInt8.lt_iff_toNat_lt]
        rw [if_pos (by simpa using this), if_pos (by simpa using this)]
    · by_cases hv : v = 0
      · subst hv
        rw [esc_zero, esc_some hu]
        have := pos8 hu
        refine ⟨?_, fun h => absurd h hu⟩
        simp only [List.cons_append, Lib.compareBytes, UInt8.lt_iff_toNat_lt]
        rw [if_neg (by simp), if_pos (by simpa using this), if_neg (by simp), if_pos (by simpa using this)]
      · rw [esc_some hu, esc_some hv]
        refine ⟨?_, fun _ => ih2⟩
        simp only [List.cons_append, Lib.compareBytes]
        rw [ih1]
theorem cmp_snoc : ∀ (x y : List UInt8) (u v : UInt8), x.length = y.length → Lib.compareBytes (x ++ [u]) (y ++ [v]) = if Lib.compareBytes x y = 0 then cmpI u.toNat v.toNat else Lib.compareBytes x y
  | [], [], u, v, _ => by
    simp only [List.nil_append, Lib.compareBytes, UInt8.lt_iff_toNat_lt, if_true, cmpI]
    simp only [Int.ofNat_lt]
  | [], _ :: _, _, _, h => by simp at h
  | _ :: _, [], _, _, h => by simp at h
  | a :: x, b :: y, u, v, h => by
    have ih := cmp_snoc x y u v (by simpa using h)
    have e1 : Lib.compareBytes (a :: x) (b :: y) = if a < b then -1 else if b < a then 1 else Lib.compareBytes x y := rfl
    have e2 : Lib.compareBytes (a :: x ++ [u]) (b :: y ++ [v]) = if a < b then -1 else if b < a then 1 else Lib.compareBytes (x ++ [u]) (y ++ [v]) := rfl
    by_cases h1 : a < b
    · have c1 : Lib.compareBytes (a :: x) (b :: y) = -1 := by rw [e1, if_pos h1]
      rw [e2, if_pos h1, c1]; rfl
    · by_cases h2 : b < a
      · have c1 : Lib.compareBytes (a :: x) (b :: y) = 1 := by rw [e1, if_neg h1, if_pos h2]
        rw [e2, if_neg h1, if_pos h2, c1]; rfl
      · have c1 : Lib.compareBytes (a :: x) (b :: y) = Lib.compareBytes x y := by rw [e1, if_neg h1, if_neg h2]
        rw [e2, if_neg h1, if_neg h2, c1, ih]
theorem dg_len (k n : Nat) : (dg (digs k n)).length = k := by unfold dg; rw [List.length_map, digs_len]
theorem cmp_digs : ∀ (k a b : Nat), a < 256 ^ k → b < 256 ^ k → Lib.compareBytes (dg (digs k a)) (dg (digs k b)) = cmpI a b
  | 0, a, b, ha, hb => by
    have h1 : a = 0 := by simpa using ha
    have h2 : b = 0 := by simpa using hb
    subst h1 h2; rfl
  | k + 1, a, b, ha, hb => by
    have e : 256 ^ (k + 1) = 256 ^ k * 256 := rfl
    have ih := cmp_digs k (a / 256) (b / 256) (by rw [Nat.div_lt_iff_lt_mul (by decide)]; omega) (by rw [Nat.div_lt_iff_lt_mul (by decide)]; omega)
    have hs (n : Nat) : dg (digs (k + 1) n) = dg (digs k (n / 256)) ++ [UInt8.ofNat (n % 256)] := by simp [dg, digs]
    rw [hs, hs, cmp_snoc _ _ _ _ (by rw [dg_len, dg_len]), ih]
    have n1 : (UInt8.ofNat (a % 256)).toNat = a % 256 := by simp
    have n2 : (UInt8.ofNat (b % 256)).toNat = b % 256 := by simp
    rw [n1, n2]
    unfold cmpI
    repeat' split
    all_goals omega

def wantV (ka na : Int) (sa : ByteArray) (kb nb : Int) (sb : ByteArray) (p c : Nat) : Int :=
  if ka = 0 ∨ kb = 0 then cmpI (min ka 1) (min kb 1) else if ka = 4 then Lib.compareBytes (wei48 p c sa) (wei48 p c sb) else cmpI na nb
theorem enc_text (n : Int) (s : ByteArray) (p c : Nat) : (encS 4 n s p c).data.toList = 4 :: (esc (wei48 p c s) ++ [0, 0]) := by
  unfold encS; rw [if_pos rfl]; rfl
theorem enc_other {k n : Int} {s : ByteArray} (p c : Nat) (h : vE k n s = 0) (hk : k ≠ 4) : (encS k n s p c).data.toList = UInt8.ofNat k.toNat :: dg (digs (nbS k) (n + nbA k).toNat) := by
  obtain ⟨h1, h2, _⟩ := valid_num h hk
  unfold encS
  rw [if_neg hk, SN_list]
  · unfold numL dg
    rw [show ((k.toNat : Nat) : Int) = k by omega]
    rfl
  · intro x hx
    unfold numL at hx
    rcases List.mem_cons.1 hx with rfl | hx
    · omega
    · exact digs_lt _ _ _ hx
theorem turn_list (s : ByteArray) : (turnS true s).data.toList = s.data.toList.map inv8 := rfl
theorem ord_list {ka na : Int} {sa : ByteArray} {kb nb : Int} {sb : ByteArray} (p c : Nat) (ha : vE ka na sa = 0) (hb : vE kb nb sb = 0) (hk : ka = 0 ∨ kb = 0 ∨ ka = kb) :
    Lib.compareBytes (encS ka na sa p c).data.toList (encS kb nb sb p c).data.toList = wantV ka na sa kb nb sb p c ∧ apart (encS ka na sa p c).data.toList (encS kb nb sb p c).data.toList := by
  by_cases h4 : ka = 4 ∧ kb = 4
  · obtain ⟨rfl, rfl⟩ := h4
    obtain ⟨h1, h2⟩ := cmp_esc (wei48 p c sa) (wei48 p c sb)
    rw [enc_text, enc_text]
    refine ⟨?_, fun _ => h2⟩
    unfold wantV
    rw [if_neg (by decide), if_pos rfl]
    simp only [Lib.compareBytes]
    rw [if_neg (by decide), if_neg (by decide), h1]
  · have hd : ∀ k n s, vE k n s = 0 → ∃ t, (encS k n s p c).data.toList = UInt8.ofNat k.toNat :: t ∧ 0 ≤ k ∧ k ≤ 4 := by
      intro k n s hv
      by_cases h : k = 4
      · subst h; exact ⟨_, enc_text n s p c, by omega, by omega⟩
      · have := valid_num hv h; exact ⟨_, enc_other p c hv h, by omega, by omega⟩
    by_cases hn : ka = kb
    · subst hn
      have hk4 : ka ≠ 4 := fun h => h4 ⟨h, h⟩
      obtain ⟨a1, a2, a3, a4, a5, _⟩ := valid_num ha hk4
      obtain ⟨b1, b2, b3, b4, b5, _⟩ := valid_num hb hk4
      rw [enc_other p c ha hk4, enc_other p c hb hk4]
      refine ⟨?_, fun _ => apart_len _ _ (by rw [dg_len, dg_len])⟩
      have hp : ((256 ^ nbS ka : Nat) : Int) = 256 ^ nbS ka := by simp
      have hc := cmp_digs (nbS ka) (na + nbA ka).toNat (nb + nbA ka).toNat (by omega) (by omega)
      simp only [Lib.compareBytes]
      rw [if_neg (by simp), if_neg (by simp), hc]
      unfold wantV
      by_cases h0 : ka = 0
      · subst h0
        have e1 : nbA 0 = 0 := rfl
        have e2 : nbS 0 = 0 := rfl
        rw [e2] at a5 b5
        rw [e1] at a3 a5 b3 b5 ⊢
        simp only [Int.pow_zero] at a5 b5
        rw [if_pos (.inl rfl)]
        have n1 : na = 0 := by omega
        have n2 : nb = 0 := by omega
        subst n1 n2
        rfl
      · rw [if_neg (by omega), if_neg hk4]
        unfold cmpI
        repeat' split
        all_goals omega
    · obtain ⟨x, hx, x0, x4⟩ := hd ka na sa ha
      obtain ⟨y, hy, y0, y4⟩ := hd kb nb sb hb
      rw [hx, hy]
      have u1 : (UInt8.ofNat ka.toNat).toNat = ka.toNat := by simp; omega
      have u2 : (UInt8.ofNat kb.toNat).toNat = kb.toNat := by simp; omega
      refine ⟨?_, fun h => ?_⟩
      · unfold wantV
        rw [if_pos (by omega)]
        simp only [Lib.compareBytes, UInt8.lt_iff_toNat_lt, u1, u2]
        unfold cmpI
        repeat' split
        all_goals omega
      · have := congrArg UInt8.toNat h
        rw [u1, u2] at this
        omega
theorem ord_keys {ka na : Int} {sa : ByteArray} {kb nb : Int} {sb : ByteArray} (p c : Nat) (ha : vE ka na sa = 0) (hb : vE kb nb sb = 0) (hk : ka = 0 ∨ kb = 0 ∨ ka = kb) :
    Lib.compareBytes (turnS false (encS ka na sa p c)).data.toList (turnS false (encS kb nb sb p c)).data.toList = wantV ka na sa kb nb sb p c ∧
    Lib.compareBytes (turnS true (encS ka na sa p c)).data.toList (turnS true (encS kb nb sb p c)).data.toList = - wantV ka na sa kb nb sb p c := by
  obtain ⟨h1, h2⟩ := ord_list p c ha hb hk
  rw [turn_false, turn_false, turn_list, turn_list, cmp_turn _ _ h2, h1]
  exact ⟨rfl, rfl⟩
end Go.Proofs.YtiddnacmopfamaaDoor
