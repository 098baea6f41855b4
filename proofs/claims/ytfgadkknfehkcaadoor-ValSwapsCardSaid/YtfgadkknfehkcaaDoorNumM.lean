/- The number of the decimal digits of a number is the number. -/
import Derived.Test.YtfgadkknfehkcaaDoorValR
import Derived.Test.YtfgadkknfehkcaaDoorStamp
namespace Go.Proofs.YtfgadkknfehkcaaDoor

theorem isD_ofNat (d : Nat) (h : d < 10) : isD ((UInt8.ofNat (48 + d)).toNat : Int) = true ∧ (UInt8.ofNat (48 + d)).toNat = 48 + d := by
  have e : (UInt8.ofNat (48 + d)).toNat = 48 + d := by rw [UInt8.toNat_ofNat']; omega
  refine ⟨?_, e⟩
  rw [e]; simp [isD]; omega
theorem dec_digits (u : Nat) : Lib.decDigits u ≠ [] ∧ ∀ b ∈ Lib.decDigits u, isD (b.toNat : Int) = true := by
  induction u using Nat.strongRecOn with
  | ind u ih =>
    rw [Lib.decDigits]
    split
    · rename_i h
      refine ⟨by simp, fun b hb => ?_⟩
      rw [List.mem_singleton.1 hb]; exact (isD_ofNat u h).1
    · rename_i h
      refine ⟨by simp, fun b hb => ?_⟩
      rcases List.mem_append.1 hb with q | q
      · exact (ih (u / 10) (by omega)).2 b q
      · rw [List.mem_singleton.1 q]; exact (isD_ofNat (u % 10) (by omega)).1
theorem digs_append (l r : List UInt8) : ∀ a, (∀ b ∈ l, isD (b.toNat : Int) = true) → digs a (l ++ r) = digs (digs a l) r := by
  induction l with
  | nil => intro a _; rfl
  | cons b l ih =>
    intro a h
    have hb := h b (List.mem_cons_self ..)
    simp only [List.cons_append, digs]
    rw [if_pos hb, if_pos hb]
    exact ih _ (fun c hc => h c (List.mem_cons_of_mem _ hc))
theorem digs_dec (u : Nat) (h : u ≤ 1000000000000000) : digs 0 (Lib.decDigits u) = u := by
  induction u using Nat.strongRecOn with
  | ind u ih =>
    rw [Lib.decDigits]
    split
    · rename_i hu
      obtain ⟨h1, h2⟩ := isD_ofNat u hu
      simp only [digs]
      rw [if_pos h1, h2]; omega
    · rename_i hu
      rw [digs_append _ _ _ (dec_digits (u / 10)).2, ih (u / 10) (by omega) (by omega)]
      obtain ⟨h1, h2⟩ := isD_ofNat (u % 10) (by omega)
      simp only [digs]
      rw [if_pos h1, h2]; omega
theorem digs_zeros (m : Nat) (l : List UInt8) : digs 0 (List.replicate m 48 ++ l) = digs 0 l := by
  induction m with
  | zero => rfl
  | succ m ih =>
    rw [List.replicate_succ, List.cons_append]
    simp only [digs]
    rw [if_pos (by decide)]
    exact ih
theorem trim_head (b : UInt8) (l : List UInt8) (h : isD (b.toNat : Int) = true ∨ b = 45) : Lib.trimLeftB (b :: l) 32 = b :: l := by
  unfold Lib.trimLeftB
  rw [List.dropWhile_cons_of_neg]
  rcases h with h | h
  · intro e
    have : b = 32 := by simpa using e
    subst this; exact absurd h (by decide)
  · subst h; decide
theorem trim_blanks (m : Nat) (l : List UInt8) : Lib.trimLeftB (List.replicate m 32 ++ l) 32 = Lib.trimLeftB l 32 := by
  unfold Lib.trimLeftB
  induction m with
  | zero => rfl
  | succ m ih => rw [List.replicate_succ, List.cons_append, List.dropWhile_cons_of_pos (by simp)]; exact ih
theorem signed_digits (b : UInt8) (l : List UInt8) (h : isD (b.toNat : Int) = true) : signed (b :: l) = digs 0 (b :: l) := by
  have h1 : b ≠ 45 := by rintro rfl; exact absurd h (by decide)
  have h2 : b ≠ 43 := by rintro rfl; exact absurd h (by decide)
  simp only [signed]; rw [if_neg h1, if_neg h2]
theorem val_dec (u : Nat) (h : u ≤ 1000000000000000) : signed (Lib.trimLeftB (Lib.decDigits u) 32) = u := by
  obtain ⟨h1, h2⟩ := dec_digits u
  have h3 := digs_dec u h
  cases hl : Lib.decDigits u with
  | nil => exact absurd hl h1
  | cons b l =>
    have hb := h2 b (by rw [hl]; exact List.mem_cons_self ..)
    rw [trim_head b l (.inl hb), signed_digits b l hb, ← hl, h3]
theorem val_itoa (n : Int) (h1 : -1000000000000000 ≤ n) (h2 : n ≤ 1000000000000000) : signed (Lib.trimLeftB (Lib.itoa n) 32) = n := by
  unfold Lib.itoa
  split
  · rename_i h
    rw [trim_head 45 _ (.inr rfl)]
    simp only [signed]
    rw [if_pos trivial, digs_dec n.natAbs (by omega)]; omega
  · rw [val_dec n.toNat (by omega)]; omega
/-- Blanks in front change nothing. -/
theorem val_blanks (m : Nat) (n : Int) (h1 : -1000000000000000 ≤ n) (h2 : n ≤ 1000000000000000) (s : ByteArray) (hs : s.data.toList = List.replicate m 32 ++ Lib.itoa n) : valB s = n := by
  unfold valB
  rw [hs, trim_blanks, val_itoa n h1 h2]
/-- Zeros in front change nothing. -/
theorem val_pad (n : Int) (k : Nat) (h1 : 0 ≤ n) (h2 : n ≤ 9999) : valB (pad n k) = n := by
  have hl : (pad n k).data.toList = List.replicate (k - (dec n).size) 48 ++ Lib.decDigits n.toNat := by
    have : (pad n k).data = (List.replicate (k - (dec n).size) 48).toArray ++ (Lib.itoa n).toArray := by unfold pad; rw [ByteArray.data_append]; rfl
    rw [this]
    unfold Lib.itoa
    rw [if_neg (by omega)]; simp
  unfold valB
  rw [hl]
  have hd := digs_dec n.toNat (by omega)
  cases hm : k - (dec n).size with
  | zero =>
    have := val_dec n.toNat (by omega)
    rw [List.replicate_zero, List.nil_append, this]; omega
  | succ m =>
    rw [List.replicate_succ, List.cons_append, trim_head 48 _ (.inl (by decide)), signed_digits 48 _ (by decide)]
    have := digs_zeros (m + 1) (Lib.decDigits n.toNat)
    rw [List.replicate_succ, List.cons_append] at this
    rw [this, hd]; omega
end Go.Proofs.YtfgadkknfehkcaaDoor
