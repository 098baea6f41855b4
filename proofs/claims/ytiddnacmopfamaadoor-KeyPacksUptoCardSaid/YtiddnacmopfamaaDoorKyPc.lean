/- Lists of keys as bytes: the mathematics of Unpack. -/
import Derived.Test.YtiddnacmopfamaaDoorKyPb
namespace Go.Proofs.YtiddnacmopfamaaDoor
open Go.RowKit
set_option linter.unusedVariables false
set_option linter.unusedSimpArgs false
set_option maxRecDepth 40000

/-- The key that stands behind another one. -/
def keyB (last : ByteArray) (n m : Nat) (r : List UInt8) : ByteArray := BA (last.data.toList.take n ++ r.take m)
def unpF (last : ByteArray) (b : List UInt8) (acc : List ByteArray) : List ByteArray × Int :=
  match b with
  | [] => (acc, 0)
  | [_] => ([], 11)
  | n :: m :: r =>
    if last.size < n.toNat ∨ r.length < m.toNat ∨ acc.length = 300 then ([], 11)
    else if Lib.compareBytes (keyB last n.toNat m.toNat r).data.toList last.data.toList < 0 ∨ lcp last.data.toList (keyB last n.toNat m.toNat r).data.toList ≠ n.toNat ∨ 100 < (keyB last n.toNat m.toNat r).size then ([], 11)
    else unpF (keyB last n.toNat m.toNat r) (r.drop m.toNat) (acc ++ [keyB last n.toNat m.toNat r])
termination_by b.length
decreasing_by simp; omega
def parF (last : ByteArray) (b : List UInt8) (acc : List ByteArray) : Option (List ByteArray) :=
  match b with
  | [] => some acc
  | [_] => none
  | n :: m :: r => if last.size < n.toNat ∨ r.length < m.toNat then none else parF (keyB last n.toNat m.toNat r) (r.drop m.toNat) (acc ++ [keyB last n.toNat m.toNat r])
termination_by b.length
decreasing_by simp; omega
def lastB : ByteArray → List ByteArray → ByteArray
  | l, [] => l
  | _, k :: ks => lastB k ks
theorem lastB_snoc : ∀ (l : ByteArray) (ks : List ByteArray) (k : ByteArray), lastB l (ks ++ [k]) = k
  | _, [], _ => rfl
  | _, x :: ks, k => lastB_snoc x ks k
theorem packF_pre : ∀ (ks : List ByteArray) (last : ByteArray) (acc q : List UInt8), packF last ks acc = (q, 0) → ∃ t, q = acc ++ t
  | [], last, acc, q, h => by
    rw [packF] at h
    exact ⟨[], by simpa using (congrArg Prod.fst h).symm⟩
  | k :: ks, last, acc, q, h => by
    rw [packF] at h
    split at h
    · have := congrArg Prod.snd h; simp at this
    · obtain ⟨t, ht⟩ := packF_pre ks k _ q h
      exact ⟨entL last k ++ t, by rw [ht, List.append_assoc]⟩
theorem packF_app : ∀ (ls : List ByteArray) (last : ByteArray) (bs : List ByteArray) (acc p : List UInt8), packF last ls acc = (p, 0) → packF last (ls ++ bs) acc = packF (lastB last ls) bs p
  | [], last, bs, acc, p, h => by
    rw [packF] at h
    have : acc = p := congrArg Prod.fst h
    subst this; rfl
  | k :: ks, last, bs, acc, p, h => by
    rw [packF] at h
    rw [List.cons_append, packF]
    split at h
    · have := congrArg Prod.snd h; simp at this
    · rename_i hc
      rw [if_neg hc]
      exact packF_app ks k bs _ p h
theorem parF_pre : ∀ (N : Nat) (b : List UInt8) (last : ByteArray) (acc l : List ByteArray), b.length ≤ N → parF last b acc = some l → ∃ t, l = acc ++ t
  | _, [], last, acc, l, _, h => by
    rw [parF] at h
    exact ⟨[], by simpa using (Option.some.inj h).symm⟩
  | _, [x], last, acc, l, _, h => by rw [parF] at h; cases h
  | 0, _ :: _ :: _, _, _, _, hN, _ => by simp at hN
  | N + 1, n :: m :: r, last, acc, l, hN, h => by
    rw [parF] at h
    split at h
    · cases h
    · obtain ⟨t, ht⟩ := parF_pre N _ _ _ l (by simp at hN ⊢; omega) h
      exact ⟨[keyB last n.toNat m.toNat r] ++ t, by rw [ht, List.append_assoc]⟩
theorem bigS_app (a b : List ByteArray) : bigS (a ++ b) = (bigS a || bigS b) := by simp [bigS]
theorem bigS_one (k : ByteArray) : bigS [k] = decide (100 < k.size) := by simp [bigS]
theorem keyB_size {last : ByteArray} {n m : Nat} {r : List UInt8} (h1 : n ≤ last.size) (h2 : m ≤ r.length) : (keyB last n m r).size = n + m := by
  unfold keyB
  rw [BA_size, List.length_append, List.length_take, List.length_take]
  have : last.data.toList.length = last.size := rfl
  omega
theorem entL_keyB {last : ByteArray} {n m : UInt8} {r : List UInt8} (h1 : n.toNat ≤ last.size) (h2 : m.toNat ≤ r.length) (hl : lcp last.data.toList (keyB last n.toNat m.toNat r).data.toList = n.toNat) :
    entL last (keyB last n.toNat m.toNat r) = n :: m :: r.take m.toNat := by
  unfold entL
  rw [hl, keyB_size h1 h2]
  have e1 : n.toNat + m.toNat - n.toNat = m.toNat := by omega
  rw [e1]
  have e2 : (keyB last n.toNat m.toNat r).data.toList.drop n.toNat = r.take m.toNat := by
    unfold keyB
    rw [BA_data, List.drop_append, List.length_take]
    have hz : last.data.toList.length = last.size := rfl
    rw [List.drop_eq_nil_of_le (by rw [List.length_take]; omega), Nat.min_eq_left (by omega), Nat.sub_self]
    rfl
  rw [e2]
  simp
def parR (b : List UInt8) : List ByteArray × Int :=
  match parF nos b [] with
  | none => ([], 11)
  | some l => if packR l = (b, 0) then (l, 0) else ([], 11)
def tryP (o : Option (List ByteArray)) (b : List UInt8) : List ByteArray × Int :=
  match o with
  | none => ([], 11)
  | some l => if packR l = (b, 0) then (l, 0) else ([], 11)
theorem packR_of {l : List ByteArray} {q : List UInt8} (h : packR l = (q, 0)) : l.length ≤ 300 ∧ bigS l = false ∧ packF nos l [] = (q, 0) := by
  unfold packR at h
  split at h
  · have := congrArg Prod.snd h; simp at this
  · split at h
    · have := congrArg Prod.snd h; simp at this
    · exact ⟨by omega, by simpa using ‹¬ bigS l = true›, h⟩
theorem tryP_no {o : Option (List ByteArray)} {b : List UInt8} (h : ∀ l, o = some l → packR l ≠ (b, 0)) : tryP o b = ([], 11) := by
  unfold tryP
  cases o with
  | none => rfl
  | some l => exact if_neg (h l rfl)
theorem unp_eq : ∀ (N : Nat) (b : List UInt8), b.length ≤ N → ∀ (last : ByteArray) (acc : List ByteArray) (p : List UInt8), last = lastB nos acc → packF nos acc [] = (p, 0) → bigS acc = false → acc.length ≤ 300 →
    unpF last b acc = tryP (parF last b acc) (p ++ b)
  | _, [], _, last, acc, p, hl, hp, hb, ha => by
    rw [unpF, parF]
    have hr : packR acc = (p, 0) := by unfold packR; rw [if_neg (by omega), if_neg (by rw [hb]; simp), hp]
    unfold tryP
    simp only [List.append_nil]
    rw [if_pos hr]
  | _, [x], _, last, acc, p, _, _, _, _ => by rw [unpF, parF]; rfl
  | 0, _ :: _ :: _, hN, _, _, _, _, _, _, _ => by simp at hN
  | N + 1, n :: m :: r, hN, last, acc, p, hl, hp, hb, ha => by
    rw [unpF, parF]
    by_cases h1 : last.size < n.toNat ∨ r.length < m.toNat
    · rw [if_pos (by rcases h1 with h | h <;> simp [h]), if_pos h1]; rfl
    · rw [if_neg h1]
      have hn : n.toNat ≤ last.size := by omega
      have hm : m.toNat ≤ r.length := by omega
      generalize hk : keyB last n.toNat m.toNat r = k at *
      -- what a whole list would have to be
      have hall : ∀ l, parF k (r.drop m.toNat) (acc ++ [k]) = some l → ∀ q, packR l = (q, 0) → acc.length < 300 ∧ k.size ≤ 100 ∧ ¬ Lib.compareBytes k.data.toList last.data.toList < 0 ∧ ∃ t, q = p ++ entL last k ++ t := by
        intro l hpar q hq
        obtain ⟨t, rfl⟩ := parF_pre _ _ _ _ _ (Nat.le_refl _) hpar
        obtain ⟨q1, q2, q3⟩ := packR_of hq
        have hlen : acc.length < 300 := by simp at q1; omega
        rw [List.append_assoc, bigS_app, bigS_app, bigS_one] at q2
        have hsz : k.size ≤ 100 := by
          simp at q2; omega
        rw [List.append_assoc, packF_app acc nos _ _ p hp, ← hl] at q3
        rw [List.cons_append, packF] at q3
        split at q3
        · have := congrArg Prod.snd q3; simp at this
        · rename_i hc
          obtain ⟨t', ht⟩ := packF_pre _ _ _ _ q3
          exact ⟨hlen, hsz, hc, t', ht⟩
      by_cases h3 : acc.length = 300
      · rw [if_pos (.inr (.inr h3))]
        exact (tryP_no fun l hpar hq => by have := (hall l hpar _ hq).1; omega).symm
      · rw [if_neg (by omega)]
        by_cases h4 : Lib.compareBytes k.data.toList last.data.toList < 0 ∨ lcp last.data.toList k.data.toList ≠ n.toNat ∨ 100 < k.size
        · rw [if_pos h4]
          refine (tryP_no fun l hpar hq => ?_).symm
          obtain ⟨a1, a2, a3, t, ht⟩ := hall l hpar _ hq
          rcases h4 with h | h | h
          · exact a3 h
          · rw [List.append_assoc] at ht
            have h5 := List.append_cancel_left ht
            unfold entL at h5
            simp only [List.cons_append, List.nil_append, List.cons.injEq] at h5
            have h6 := congrArg UInt8.toNat h5.1
            have hle := (lcp_le last.data.toList k.data.toList).2
            have hkz : k.data.toList.length = k.size := rfl
            simp at h6
            omega
          · omega
        · rw [if_neg h4]
          have hc : lcp last.data.toList k.data.toList = n.toNat := by
            rcases Decidable.em (lcp last.data.toList k.data.toList = n.toNat) with h | h
            · exact h
            · exact absurd (.inr (.inl h)) h4
          have hent : entL last k = n :: m :: r.take m.toNat := by
            rw [← hk]; exact entL_keyB hn hm (by rw [hk]; exact hc)
          have hlt : ¬ Lib.compareBytes k.data.toList last.data.toList < 0 := fun h => h4 (.inl h)
          have hkz : ¬ 100 < k.size := fun h => h4 (.inr (.inr h))
          have ih := unp_eq N (r.drop m.toNat) (by simp at hN ⊢; omega) k (acc ++ [k]) (p ++ entL last k) (by rw [lastB_snoc]) (by
            rw [packF_app acc nos _ _ p hp, ← hl, packF, if_neg hlt, packF]) (by rw [bigS_app, hb, bigS_one]; simp; omega) (by simp; omega)
          rw [ih]
          congr 1
          rw [hent, List.append_assoc]
          simp
theorem unpF_par (b : List UInt8) : unpF nos b [] = parR b := by
  rw [unp_eq _ b (Nat.le_refl _) nos [] [] rfl rfl rfl (by simp)]
  rfl
/-- Bytes that are made of keys give the keys. -/
theorem unp_pack : ∀ (ks : List ByteArray) (last : ByteArray) (acc : List UInt8) (done : List ByteArray) (q t : List UInt8), packF last ks acc = (q, 0) → q = acc ++ t → bigS ks = false → done.length + ks.length ≤ 300 →
    unpF last t done = (done ++ ks, 0)
  | [], last, acc, done, q, t, h, ht, _, _ => by
    rw [packF] at h
    have h1 : acc = q := congrArg Prod.fst h
    subst h1
    have h2 : t = [] := by simpa using ht
    subst h2
    rw [unpF, List.append_nil]
  | k :: ks, last, acc, done, q, t, h, ht, hb, hd => by
    rw [packF] at h
    split at h
    · have := congrArg Prod.snd h; simp at this
    · rename_i hc
      obtain ⟨t', ht'⟩ := packF_pre _ _ _ _ h
      rw [ht', List.append_assoc] at ht
      have h3 := List.append_cancel_left ht
      have hkz : k.size ≤ 100 := by
        have : bigS (k :: ks) = (bigS [k] || bigS ks) := bigS_app [k] ks
        rw [this, bigS_one] at hb
        simp at hb; omega
      have hb' : bigS ks = false := by
        have : bigS (k :: ks) = (bigS [k] || bigS ks) := bigS_app [k] ks
        rw [this] at hb
        simp at hb; exact hb.2
      have hle := lcp_le last.data.toList k.data.toList
      have hkl : k.data.toList.length = k.size := rfl
      have hll : last.data.toList.length = last.size := rfl
      have hst : ∀ j, j < lcp last.data.toList k.data.toList → last.data.toList[j]? = k.data.toList[j]? := fun j hj => lcp_same _ _ j hj
      unfold entL at h3
      simp only [List.cons_append, List.nil_append] at h3
      rw [← h3, unpF]
      have n1 : (UInt8.ofNat (lcp last.data.toList k.data.toList)).toNat = lcp last.data.toList k.data.toList := by simp; omega
      have n2 : (UInt8.ofNat (k.size - lcp last.data.toList k.data.toList)).toNat = k.size - lcp last.data.toList k.data.toList := by simp; omega
      rw [n1, n2]
      have htk : last.data.toList.take (lcp last.data.toList k.data.toList) = k.data.toList.take (lcp last.data.toList k.data.toList) := by
        apply List.ext_getElem?
        intro j
        rw [List.getElem?_take, List.getElem?_take]
        split
        · exact hst j ‹_›
        · rfl
      have hkey : keyB last (lcp last.data.toList k.data.toList) (k.size - lcp last.data.toList k.data.toList) (k.data.toList.drop (lcp last.data.toList k.data.toList) ++ t') = k := by
        unfold keyB
        have e1 : (k.data.toList.drop (lcp last.data.toList k.data.toList) ++ t').take (k.size - lcp last.data.toList k.data.toList) = k.data.toList.drop (lcp last.data.toList k.data.toList) := by
          rw [List.take_append_of_le_length (by rw [List.length_drop]; omega), List.take_of_length_le (by rw [List.length_drop]; omega)]
        rw [htk, e1, List.take_append_drop]
        rfl
      have hd2 : done.length < 300 := by simp at hd; omega
      rw [hkey, if_neg (by
        rintro (h | h | h)
        · omega
        · rw [List.length_append, List.length_drop] at h; omega
        · omega), if_neg (by omega)]
      have hdr : (k.data.toList.drop (lcp last.data.toList k.data.toList) ++ t').drop (k.size - lcp last.data.toList k.data.toList) = t' := by
        rw [List.drop_append, List.drop_eq_nil_of_le (by rw [List.length_drop]; omega), List.nil_append, List.length_drop, hkl, Nat.sub_self]
        rfl
      rw [hdr]
      have ih := unp_pack ks k _ (done ++ [k]) q t' h (by rw [ht']) hb' (by simp at hd ⊢; omega)
      rw [ih, List.append_assoc]
      rfl
theorem unp_back {ss : List ByteArray} {q : List UInt8} (h : packR ss = (q, 0)) : unpF nos q [] = (ss, 0) := by
  obtain ⟨h1, h2, h3⟩ := packR_of h
  have := unp_pack ss nos [] [] q q h3 rfl h2 (by simpa using h1)
  simpa using this
end Go.Proofs.YtiddnacmopfamaaDoor
