/- Like of the reference. -/
import Derived.Test.YtgeikbcfjidgcaaDoorPgK2
import Derived.OwnWalk
import Derived.Deep.RegionHeld3
namespace Go.Proofs.YtgeikbcfjidgcaaDoor
open Go.RowKit
set_option linter.unusedVariables false
set_option linter.unusedSimpArgs false

/-- A row of truths, up to n, of which the first k say F, the others false. -/
def TRow (w : World) (g n k : Nat) (F : Nat → Prop) : Prop := g < w.heap.size ∧ ∀ j, j ≤ n → ∃ b : Bool, w.cell? ⟨g, j, none⟩ = some (.bool b) ∧ w.frozen? ⟨g, j, none⟩ = false ∧ (j < k → (b = true ↔ F j)) ∧ (k ≤ j → b = false)
theorem TRow.below {w w' : World} {g n k B : Nat} {F : Nat → Prop} (h : TRow w g n k F) (hb : Below B w w') (hg : g < B) : TRow w' g n k F :=
  ⟨by have := h.1; have := hb.size; omega, fun j hj => by
    obtain ⟨b, h1, h2, h3⟩ := h.2 j hj
    exact ⟨b, by rw [hb.cell (p := ⟨g, j, none⟩) hg]; exact h1, by rw [hb.frozen (p := ⟨g, j, none⟩) hg]; exact h2, h3⟩⟩
theorem TRow.dr {w : World} {g n k : Nat} {F : Nat → Prop} (h : TRow w g n k F) : TRow w.drew g n k F := h
theorem TRow.other {w : World} {g n k g2 i : Nat} {F : Nat → Prop} {v : Value} (h : TRow w g n k F) (hne : g ≠ g2) : TRow (w.setCell ⟨g2, i, none⟩ v) g n k F :=
  ⟨by have := h.1; simpa using this, fun j hj => by
    obtain ⟨b, h1, h2, h3⟩ := h.2 j hj
    refine ⟨b, ?_, ?_, h3⟩
    · rw [World.cell?_setCell_other _ _ _ _ (fun x => hne (by injection x with x _ _; exact x.symm))]; exact h1
    · rw [World.frozen?_setCell]; exact h2⟩
theorem TRow.set {w : World} {g n k : Nat} {F : Nat → Prop} {v : Bool} (h : TRow w g n k F) (hk : k ≤ n) (hv : v = true ↔ F k) : TRow (w.setCell ⟨g, k, none⟩ (.bool v)) g n (k + 1) F := by
  refine ⟨by have := h.1; simpa using this, fun j hj => ?_⟩
  obtain ⟨b, h1, h2, h3, h4⟩ := h.2 j hj
  by_cases e : j = k
  · subst e
    exact ⟨v, World.cell?_setCell_same _ _ _ h1, by rw [World.frozen?_setCell]; exact h2, fun _ => hv, fun q => by omega⟩
  · exact ⟨b, by rw [World.cell?_setCell_other _ _ _ _ (fun x => e (by injection x with _ x _; exact x.symm))]; exact h1, by rw [World.frozen?_setCell]; exact h2, fun q => h3 (by omega), fun q => h4 (by omega)⟩
theorem TRow.skip {w : World} {g n k : Nat} {F : Nat → Prop} (h : TRow w g n k F) (hk : k ≤ n) (hF : ¬ F k) : TRow w g n (k + 1) F := by
  refine ⟨h.1, fun j hj => ?_⟩
  obtain ⟨b, h1, h2, h3, h4⟩ := h.2 j hj
  refine ⟨b, h1, h2, fun q => ?_, fun q => h4 (by omega)⟩
  by_cases e : j = k
  · subst e
    have := h4 (Nat.le_refl _)
    subst this
    exact ⟨fun q => absurd q (by simp), fun q => absurd q hF⟩
  · exact h3 (by omega)
theorem TRow.fill {w : World} {g n k : Nat} {F : Nat → Prop} (h : TRow w g n k F) (hF : ∀ j, k ≤ j → j ≤ n → ¬ F j) : TRow w g n (n + 1) F :=
  ⟨h.1, fun j hj => by
    obtain ⟨b, h1, h2, h3, h4⟩ := h.2 j hj
    refine ⟨b, h1, h2, fun _ => ?_, fun q => by omega⟩
    by_cases e : j < k
    · exact h3 e
    · have := h4 (by omega)
      subst this
      exact ⟨fun q => absurd q (by simp), fun q => absurd q (hF j (by omega) hj)⟩⟩
theorem TRow.to {w : World} {g n k : Nat} {F G : Nat → Prop} (h : TRow w g n k F) (hk : n < k) (hFG : ∀ j, j ≤ n → (F j ↔ G j)) : TRow w g n (n + 1) G :=
  ⟨h.1, fun j hj => by
    obtain ⟨b, h1, h2, h3, h4⟩ := h.2 j hj
    exact ⟨b, h1, h2, fun _ => (h3 (by omega)).trans (hFG j hj), fun q => by omega⟩⟩
theorem TRow.new {w w' : World} {n : Nat} {F : Nat → Prop} {base : Nat} (h : w'.ownsRow base 4 1 (.slice (some ⟨w.heap.size, 0, none⟩) (n + 1) (n + 1)) (n + 1) (madeCells (Value.bool false).cells ((n + 1) * 1)).toList) : TRow w' w.heap.size n 0 F := by
  have e : (madeCells (Value.bool false).cells ((n + 1) * 1)).toList = List.replicate (n + 1) (Value.bool false) := by
    rw [Nat.mul_one]; exact toList_madeCells_one _ _
  rw [e] at h
  refine ⟨?_, fun j hj => ⟨false, ?_, World.ownsRow.frozenAt h j, fun q => by omega, fun _ => rfl⟩⟩
  · rcases h.2 with ⟨h', _⟩ | ⟨g', cap', cur, h', _, hg, _⟩
    · simp at h'
    · simp only [Value.slice.injEq, Option.some.injEq, Addr.mk.injEq, and_true, true_and] at h'
      obtain ⟨rfl, rfl⟩ := h'
      exact lt_of_block hg
  · rw [World.ownsRow.cellAt h j (by omega), List.getElem?_replicate, if_pos (by omega)]

/-- What the table says. -/
def FT (P T : List Nat) (i k : Nat) : Prop := Mt (P.take i) (T.take k)
theorem FT.zero (P T : List Nat) (k : Nat) (hk : k ≤ T.length) : FT P T 0 k ↔ k = 0 := by
  unfold FT
  rw [List.take_zero, Mt.nil, List.take_eq_nil_iff]
  constructor
  · rintro (h | h)
    · exact h
    · rw [h] at hk; simpa using hk
  · exact .inl
theorem take_one {l : List Nat} {i : Nat} (h : i < l.length) : l.take (i + 1) = l.take i ++ [l.getD i 0] := by
  rw [List.take_succ_eq_append_getElem h]; simp [List.getD, h]
theorem FT.star {P T : List Nat} {i k : Nat} (hi : i < P.length) (hc : P.getD i 0 = 42) (hk : k ≤ T.length) : FT P T (i + 1) k ↔ (FT P T i k ∨ (0 < k ∧ FT P T (i + 1) (k - 1))) := by
  unfold FT
  rw [take_one hi, hc, Mt.snoc_star, Mt.snoc_star]
  simp only [List.length_take, List.take_take]
  constructor
  · rintro ⟨j, hj, h⟩
    rw [Nat.min_eq_left (by omega)] at h
    by_cases e : j = k
    · subst e; exact .inl h
    · exact .inr ⟨by omega, j, by omega, by rw [Nat.min_eq_left (by omega)]; exact h⟩
  · rintro (h | ⟨h0, j, hj, h⟩)
    · exact ⟨k, by omega, by rw [Nat.min_self]; exact h⟩
    · rw [Nat.min_eq_left (by omega)] at h
      exact ⟨j, by omega, by rw [Nat.min_eq_left (by omega)]; exact h⟩
theorem FT.one {P T : List Nat} {i k : Nat} (hi : i < P.length) (hc : P.getD i 0 ≠ 42) (hk : k < T.length) : FT P T (i + 1) (k + 1) ↔ (FT P T i k ∧ (P.getD i 0 = 63 ∨ P.getD i 0 = T.getD k 0)) := by
  unfold FT
  rw [take_one hi, take_one hk, Mt.snoc_one hc]
  constructor
  · rintro ⟨t, x, he, ho, h⟩
    have h2 := List.append_inj' he rfl
    obtain ⟨h3, h4⟩ := h2
    simp only [List.cons.injEq, and_true] at h4
    rw [h3, h4]; exact ⟨h, ho⟩
  · rintro ⟨h, ho⟩
    exact ⟨_, _, rfl, ho, h⟩
theorem FT.none {P T : List Nat} {i : Nat} (hi : i < P.length) (hc : P.getD i 0 ≠ 42) : ¬ FT P T (i + 1) 0 := by
  unfold FT
  rw [take_one hi, Mt.snoc_one hc]
  rintro ⟨t, x, he, _⟩
  simp at he
theorem wei_signs : ∀ (p : Fin 3) (c : Fin 2) (b : Fin 256), (weiN p.val c.val b.val = 42 ↔ b.val = 42) ∧ (weiN p.val c.val b.val = 63 ↔ b.val = 63) := by decide +kernel
theorem infoB : (Tryd.prog.info? 4).map (fun i => (i.zero, i.size, i.bytes)) = some (some (.bool false), 1, 1) := by kernel_rfl

set_option maxHeartbeats 16000000 in
set_option maxRecDepth 40000 in
theorem refLike_any (s t : ByteArray) (p c : Int) (r : Bool) (hr : LikeIs s t p c r) (w : World) (hs : s.size ≤ maxLen) (hs' : t.size ≤ maxLen) :
    Calls Tryd.prog 35 #[.string s, .string t, .int .i64 p, .int .i64 c] w (KRes w r (wrongN p c [s, t])) := by
  have hcon := Lib.hid (asked_two c p s t w hs hs')
  have hb0 := Lib.hid (two_below w (.cells #[.string s, .string t] 9) (.cells #[.int .i64 p] 3))
  cases hz : decide (wrongN p c [s, t] = 0)
  · have hz : ¬ wrongN p c [s, t] = 0 := by simpa using hz
    obtain rfl := hr.2 hz
    clear hr
    generalize wrongN p c [s, t] = n at *
    have dn : (n != 0) = true := by simpa using hz
    clear hz
    go_enter Tryd.func35, Tryd.ntmps35
    go_wp2_with fail
    refine (hcon.out).mono ?_
    rintro e w1 ⟨rfl, rfl⟩
    go_wp2_with fail
    go_ret2
    exact ⟨rfl, hb0.out⟩
  · have hz : wrongN p c [s, t] = 0 := by simpa using hz
    have hrr := Lib.hid (hr.1 hz)
    obtain ⟨hp0, hp3, hc01, hss⟩ := wrong_zero hz
    have hs2 : s.size ≤ 2048 := hss s (by simp)
    have hs3 : t.size ≤ 2048 := hss t (by simp)
    obtain ⟨q, rfl⟩ : ∃ q : Nat, p = q := ⟨p.toNat, by omega⟩
    obtain ⟨d, rfl⟩ : ∃ d : Nat, c = d := ⟨c.toNat, by omega⟩
    have hq : q < 3 := by omega
    have hd : d < 2 := by omega
    rw [hz]
    rw [hz] at hcon
    simp only [Int.toNat_natCast] at hrr
    clear hz hp0 hp3 hss hc01 hr
    have LP : Hid ((wn q d s).length = s.size) := Lib.hid (by rw [wn, List.length_map, sb_len])
    have LT : Hid ((wn q d t).length = t.size) := Lib.hid (by rw [wn, List.length_map, sb_len])
    have AP : Hid (∀ (k : Nat) (h : k < s.size), (wn q d s).getD k 0 = weiN q d (s[k].toNat)) := Lib.hid fun k h => by
      rw [wn, sb_at s h]
      have hl : k < (sb s).length := by rw [sb_len]; exact h
      simp [List.getD, hl]
    have AT : Hid (∀ (k : Nat) (h : k < t.size), (wn q d t).getD k 0 = weiN q d (t[k].toNat)) := Lib.hid fun k h => by
      rw [wn, sb_at t h]
      have hl : k < (sb t).length := by rw [sb_len]; exact h
      simp [List.getD, hl]
    generalize wn q d s = P at *
    generalize wn q d t = T at *
    obtain ⟨i0, hi0, hz0, hz1, hz2⟩ := info_parts infoB
    have HI0 := Lib.hid (And.intro hi0 (And.intro hz0 (And.intro hz1 hz2))); clear hi0 hz0 hz1 hz2
    go_enter Tryd.func35, Tryd.ntmps35
    go_wp2_with fail
    refine (hcon.out).mono ?_
    rintro e w1 ⟨rfl, rfl⟩
    generalize (w.alloc (.cells #[.string s, .string t] 9)).alloc (.cells #[.int .i64 q] 3) = w0 at *
    go_wp2_with (at_make; go_loud (refine wpList_make_full _ rfl _ _ _ rfl w0.heap.size 4 i0 (.bool false) 1 Tryd.underlying73 HI0.out.1 HI0.out.2.1 HI0.out.2.2.1 .i64 .i64 _ _ (t.size + 1) rfl rfl (by push_cast; rfl) (by push_cast; rfl) (by rw [HI0.out.2.2.2]; omega) (by unfold maxLen; omega) (Nat.le_refl _) ?_; intro w2 ho1 hg1; have HO1 := Lib.hid (TRow.new (F := FT P T 0) ho1); have HB1 := Lib.hid ((Below.refl w0.heap.size w0).grown hg1 (Nat.le_refl _) (by intro g hg; cases hg)); clear ho1 hg1; obtain ⟨b0, hc0, hf0, _⟩ := HO1.out.2 0 (Nat.zero_le _)))
    have hset := (HO1.out.set (v := true) (Nat.zero_le _) (by rw [FT.zero P T 0 (Nat.zero_le _)]; simp)).fill (fun j h1 h2 => by rw [FT.zero P T j (by rw [LT.out]; exact h2)]; omega)
    have HSET := Lib.hid hset; clear hset
    have HBS := Lib.hid (HB1.out.setCell (p := ⟨w0.heap.size, 0, none⟩) (Nat.le_refl _) (.bool true))
    generalize w2.setCell ⟨w0.heap.size, 0, none⟩ (.bool true) = w3 at *
    have HB3 : Hid (Below w.heap.size w w3) := Lib.hid (hb0.out.trans (HBS.out.mono hb0.out.size))
    have hg0 := hb0.out.size
    clear hc0 hf0
    go_loopw [11, 12] (fun fv iv wr => ∃ (i g : Nat), fv = .slice (some ⟨g, 0, none⟩) (t.size + 1) (t.size + 1) ∧ iv = .int .i64 i ∧ i ≤ s.size ∧ w.heap.size ≤ g ∧ TRow wr g t.size (t.size + 1) (FT P T i) ∧ Below w.heap.size w wr) (fun _ iv _ => s.size - (intOf iv).toNat)
    case atStart => exact ⟨0, w0.heap.size, rfl, rfl, by omega, hg0, HSET.out, HB3.out⟩
    case round =>
      obtain ⟨i, g, rfl, rfl, hi, hgw, hrow, hbel⟩ := hrel
      have HB := Lib.hid hbel; clear hbel
      have HR := Lib.hid hrow; clear hrow
      by_cases hlt : i < s.size
      · have gi : (i : Int) < s.size := by omega
        have hii := HR.out.1
        go_wp2_with (at_make; go_loud (refine wpList_make_full _ rfl _ _ _ rfl wr.heap.size 4 i0 (.bool false) 1 Tryd.underlying73 HI0.out.1 HI0.out.2.1 HI0.out.2.2.1 .i64 .i64 _ _ (t.size + 1) rfl rfl (by push_cast; rfl) (by push_cast; rfl) (by rw [HI0.out.2.2.2]; omega) (by unfold maxLen; omega) (Nat.le_refl _) ?_; intro wn ho1 hg1; have HN0 := Lib.hid (TRow.new (F := FT P T (i + 1)) ho1); have HBN := Lib.hid ((Below.refl wr.heap.size wr).grown hg1 (Nat.le_refl _) (by intro g hg; cases hg)); clear ho1 hg1))
        have hgn2 : g < wr.heap.size := HR.out.1
        have HGN : Hid (w.heap.size ≤ wr.heap.size) := Lib.hid HB.out.size
        have HFR := Lib.hid (HR.out.below HBN.out hgn2)
        have HBW := Lib.hid (HB.out.trans (HBN.out.mono HGN.out))
        have hii2 := AP.out i hlt
        have hx := s[i].toNat_lt
        generalize hxe : s[i].toNat = x at *
        have hsg := wei_signs ⟨q, hq⟩ ⟨d, hd⟩ ⟨x, hx⟩
        simp only at hsg
        have WX := Lib.hid (fun W => refWeight_any x q d hx hq hd W)
        generalize weiN q d x = c at *
        generalize wr.heap.size = gn at *
        clear HR HB HBN
        go_loopw [14] (fun kv wq => ∃ k : Nat, kv = .int .i64 k ∧ k ≤ t.size + 1 ∧ TRow wq gn t.size k (FT P T (i + 1)) ∧ TRow wq g t.size (t.size + 1) (FT P T i) ∧ Below w.heap.size w wq) (fun kv _ => t.size + 1 - (intOf kv).toNat)
        case atStart => exact ⟨0, rfl, by omega, HN0.out, HFR.out, HBW.out⟩
        case round =>
          obtain ⟨k, rfl, hk, hnx, hfx, hbx⟩ := hrel
          have HNX := Lib.hid hnx; have HFX := Lib.hid hfx; have HBX := Lib.hid hbx; clear hnx hfx hbx
          have hP : i < P.length := by rw [LP.out]; exact hlt
          by_cases hkt : k ≤ t.size
          · have gk : (k : Int) ≤ t.size := by omega
            have gk1 : (k : Int) < t.size + 1 := by omega
            obtain ⟨bn, hn1, hn2, _, _⟩ := HNX.out.2 k hkt
            obtain ⟨bf, hf1, hf2, hf3, _⟩ := HFX.out.2 k hkt
            have HF3 := Lib.hid (hf3 (by omega)); clear hf3
            by_cases h42 : x = 42
            · have g1 : ((x : Int) == 42) = true := by simp; omega
              have HST := Lib.hid (FT.star (T := T) hP (hii2.trans (hsg.1.2 h42)) (k := k) (by rw [LT.out]; exact hkt))
              clear h42
              cases bf
              · rcases Nat.eq_zero_or_pos k with h0 | h0
                · subst h0
                  go_wp2_with fail
                  go_roundw
                  case rel => exact ⟨0 + 1, by go_num, by omega, HNX.out.set (v := false) (by omega) (by rw [HST.out, ← HF3.out]; simp), HFX.out.other (by omega), HBX.out.setCell HGN.out _⟩
                  case measure => simp only [intOf]; omega
                · obtain ⟨j, rfl⟩ : ∃ j, k = j + 1 := ⟨k - 1, by omega⟩
                  obtain ⟨bj, hj1, _, hj3, _⟩ := HNX.out.2 j (by omega)
                  have HJ3 := Lib.hid (hj3 (by omega)); clear hj3
                  have gpos : (0 : Int) < (j : Int) + 1 := by omega
                  have gj : (j : Int) < t.size + 1 := by omega
                  have gj0 : (0 : Int) ≤ j := by omega
                  go_wp2_with fail
                  go_roundw
                  case rel => exact ⟨j + 1 + 1, by go_num, by omega, HNX.out.set (v := bj) (by omega) (by rw [HST.out, ← HF3.out]; simp only [Nat.add_sub_cancel, ← HJ3.out]; simp), HFX.out.other (by omega), HBX.out.setCell HGN.out _⟩
                  case measure => simp only [intOf]; omega
              · go_wp2_with fail
                go_roundw
                case rel => exact ⟨k + 1, by go_num, by omega, HNX.out.set (v := true) (by omega) (by rw [HST.out, ← HF3.out]; simp), HFX.out.other (by omega), HBX.out.setCell HGN.out _⟩
                case measure => simp only [intOf]; omega
            · have g1 : ((x : Int) == 42) = false := by simp; omega
              have hc42 : P.getD i 0 ≠ 42 := by rw [hii2]; exact fun e => h42 (hsg.1.1 e)
              rcases Nat.eq_zero_or_pos k with h0 | h0
              · subst h0
                have HNO := Lib.hid (FT.none (T := T) hP hc42)
                clear h42 hc42
                go_wp2_with fail
                go_roundw
                case rel => exact ⟨0 + 1, by go_num, by omega, HNX.out.skip (by omega) HNO.out, HFX.out, HBX.out⟩
                case measure => simp only [intOf]; omega
              · obtain ⟨j, rfl⟩ : ∃ j, k = j + 1 := ⟨k - 1, by omega⟩
                have hjt : j < t.size := by omega
                have HON := Lib.hid (FT.one hP hc42 (k := j) (by rw [LT.out]; exact hjt))
                obtain ⟨bj, hj1, _, hj3, _⟩ := HFX.out.2 j (by omega)
                have HJ3 := Lib.hid (hj3 (by omega)); clear hj3
                have gj : (j : Int) < t.size + 1 := by omega
                have gj0 : (0 : Int) ≤ j := by omega
                have gz : ((j : Int) + 1 == 0) = false := by simp; omega
                by_cases h63 : x = 63
                · have g2 : ((x : Int) == 63) = true := by simp; omega
                  have HC63 : Hid (P.getD i 0 = 63) := Lib.hid (hii2.trans (hsg.2.2 h63))
                  clear h42 hc42 h63
                  go_wp2_with fail
                  go_roundw
                  case rel => exact ⟨j + 1 + 1, by go_num, by omega, HNX.out.set (v := bj) (by omega) (by rw [HON.out, ← HJ3.out]; exact ⟨fun h => ⟨h, .inl HC63.out⟩, fun h => h.1⟩), HFX.out.other (by omega), HBX.out.setCell HGN.out _⟩
                  case measure => simp only [intOf]; omega
                · have g2 : ((x : Int) == 63) = false := by simp; omega
                  have hc63 : P.getD i 0 ≠ 63 := by rw [hii2]; exact fun e => h63 (hsg.2.1 e)
                  have hty := AT.out j hjt
                  have hy := t[j].toNat_lt
                  have gjt : (j : Int) < t.size := by omega
                  generalize hye : t[j].toNat = y at *
                  have WY := Lib.hid (fun W => refWeight_any y q d hy hq hd W)
                  generalize weiN q d y = e at *
                  have HON2 : Hid (FT P T (i + 1) (j + 1) ↔ (FT P T i j ∧ c = e)) := Lib.hid (by
                    rw [HON.out, hii2, hty]
                    constructor
                    · rintro ⟨a, b | b⟩
                      · rw [hii2] at hc63; exact absurd b hc63
                      · exact ⟨a, b⟩
                    · rintro ⟨a, b⟩; exact ⟨a, .inr b⟩)
                  have HTY := Lib.hid hty; have HII := Lib.hid hii2; clear h42 hc42 h63 hc63 hty hii2
                  have wj1 : IntKind.i64.wrap ((j : Int) + 1 - 1) = j := by
                    simp [IntKind.wrap, IntKind.signed, IntKind.bits]; omega
                  have wj2 : IntKind.i64.wrap (j : Int) = j := by simp [IntKind.wrap, IntKind.signed, IntKind.bits]; omega
                  obtain ⟨hjz, _⟩ : wr.frozen? ⟨g, j, none⟩ = false ∧ True := ⟨by assumption, trivial⟩
                  cases bj
                  · go_wp2_with fail
                    go_region
                    go_wp2_with fail
                    go_roundw
                    case rel => exact ⟨j + 1 + 1, by go_num, by omega, (HNX.out.set (v := false) (by omega) (by rw [HON2.out, ← HJ3.out]; simp)).dr, (HFX.out.other (by omega)).dr, (HBX.out.setCell HGN.out _).drew⟩
                    case measure => simp only [intOf]; omega
                  · have hgg : g ≠ gn := by omega
                    have gk2 : (j : Int) + 1 < t.size + 1 := by omega
                    have gk3 : (0 : Int) ≤ (j : Int) + 1 := by omega
                    go_wp2_with fail
                    go_region_held3 (fun y => y.cell? ⟨g, j, none⟩ = some (.bool true)) (first | exact hj1 | exact (World.cell?_setCell_other _ _ _ _ (fun x => hgg (by injection x with x _ _; exact x.symm))).trans hj1 | go_keep)
                     (first
                      | (go_at_call 59; (with_reducible refine (WX.out _).mono ?_); rintro _ z1 ⟨rfl, rfl⟩)
                      | (go_at_call 59; (with_reducible refine (WY.out _).mono ?_); rintro _ z2 ⟨rfl, rfl⟩)
                      | fail)
                    all_goals (
                      go_wp2_with fail
                      go_roundw
                      case rel => exact ⟨j + 1 + 1, by go_num, by omega, (HNX.out.set (v := ((c : Int) == (e : Int))) (by omega) (by rw [HON2.out, ← HJ3.out]; simp; omega)).dr, (HFX.out.other (by omega)).dr, (HBX.out.setCell HGN.out _).drew⟩
                      case measure => simp only [intOf]; omega)
          · obtain rfl : k = t.size + 1 := by omega
            have gk : ¬ (t.size : Int) + 1 ≤ t.size := by omega
            go_wp2_with fail
            go_roundw
            case rel => exact ⟨i + 1, gn, rfl, by go_num, by omega, HGN.out, HNX.out, HBX.out⟩
            case measure => simp only [intOf]; omega
      · have gi : ¬ (i : Int) < s.size := by omega
        obtain rfl : i = s.size := by omega
        obtain ⟨bf, hf1, hf2, hf3, _⟩ := HR.out.2 t.size (Nat.le_refl _)
        have hrf : r = bf := by
          have h1 := hf3 (by omega)
          have h2 : FT P T s.size t.size ↔ Mt P T := by
            unfold FT
            rw [← LP.out, ← LT.out, List.take_length, List.take_length]
          have h3 := hrr.out.trans (h2.symm.trans h1.symm)
          cases r <;> cases bf <;> simp_all
        subst hrf
        have gt : (t.size : Int) < t.size + 1 := by omega
        clear hf3
        go_wp2_with fail
        go_ret2
        exact ⟨rfl, HB.out⟩
end Go.Proofs.YtgeikbcfjidgcaaDoor
