/- Rows of texts of a call's own; Unpack of the program. -/
import Derived.Test.YtiddnacmopfamaaDoorKyPc
import Derived.Deep.QuietTactic
import Derived.BigQuiet
namespace Go.Proofs.YtiddnacmopfamaaDoor
open Go.RowKit
set_option linter.unusedVariables false
set_option linter.unusedSimpArgs false
set_option maxRecDepth 40000

/-- v is a slice of texts of the call's own, in blocks from base on. -/
def OwnS (w : World) (base : Nat) (v : Value) (ss : List ByteArray) : Prop := w.ownsRow base 9 1 v ss.length (ss.map Value.string)
section
variable {w w' : World} {base : Nat} {v : Value} {ss : List ByteArray}
theorem OwnS.nil (w : World) (base : Nat) : OwnS w base (.slice none 0 0) [] := ⟨by simp, .inl ⟨rfl, rfl⟩⟩
theorem OwnS.alloc (h : OwnS w base v ss) (o : Obj) : OwnS (w.alloc o) base v ss := World.ownsRow.alloc h o
theorem OwnS.dr (h : OwnS w base v ss) (hd : Dr w w') : OwnS w' base v ss := by obtain ⟨m, rfl⟩ := hd; exact h
theorem OwnS.block (h : OwnS w base v ss) {g : Nat} (hg : v.ownBlock = some g) : base ≤ g ∧ g < w.heap.size := by
  rcases h.2 with ⟨rfl, _⟩ | ⟨g', cap, cur, rfl, hb, hh, _⟩
  · simp [Value.ownBlock] at hg
  · have : g' = g := by simpa [Value.ownBlock] using hg
    subst this
    refine ⟨hb, ?_⟩
    rcases Nat.lt_or_ge g' w.heap.size with hlt | hge
    · exact hlt
    · rw [Array.getElem?_eq_none hge] at hh; cases hh
theorem OwnS.below {B : Nat} (h : OwnS w base v ss) (hb : Below B w w') (hB : w.heap.size ≤ B) : OwnS w' base v ss := by
  refine ⟨h.1, ?_⟩
  rcases h.2 with hn | ⟨g', cap, cur, hv, hb', hh, rest⟩
  · exact .inl hn
  · refine .inr ⟨g', cap, cur, hv, hb', ?_, rest⟩
    have hlt : g' < w.heap.size := by
      rcases Nat.lt_or_ge g' w.heap.size with hlt | hge
      · exact hlt
      · rw [Array.getElem?_eq_none hge] at hh; cases hh
    rw [hb.block g' (by omega), hh]
theorem OwnS.out (h : OwnS w base v ss) : ∃ A c, v = .slice A ss.length c ∧ RdS w A ss := by
  have h' := h
  rcases h.2 with ⟨rfl, hn⟩ | ⟨g', cap, cur, rfl, hb', hh, hnc, hcm, _⟩
  · exact ⟨none, 0, by rw [hn], fun j hj => by omega⟩
  · refine ⟨some ⟨g', 0, none⟩, cap, rfl, fun j hj => ⟨_, rfl, ?_, ?_⟩⟩
    · rcases Nat.lt_or_ge g' w.heap.size with hlt | hge
      · exact hlt
      · rw [Array.getElem?_eq_none hge] at hh; cases hh
    · have hc := World.ownsRow.cells h' (g := g') rfl j (.string (ss.getD j nos)) (by simp [List.getD, List.getElem?_eq_getElem hj])
      exact hc
end
theorem infoS : (Tryd.prog.info? 9).map (fun i => (i.zero, i.size, i.bytes)) = some (some (.string ⟨#[]⟩), 1, 16) := by kernel_rfl
/-- out = append(out, s) of texts. -/
theorem app_str {w : World} {ops : Array Oper} {rest : List Oper} {o : Oper} {a : Act} {Q : Exit → Act → World → Prop} (hgd : o.guard = none) (s x : Operand)
    (ho : o.op = .call { callee := .builtin .append, args := #[s, x], argTypes := #[60, 60] })
    (base : Nat) (v : Value) (ss : List ByteArray) (t : ByteArray) (hs : a.eval s = v) (hown : OwnS w base v ss)
    (ad : Addr) (c : Nat) (hx : a.eval x = .slice (some ad) 1 c) (hc : w.cell? ad = some (.string t)) (hlen : ss.length ≤ 1000000) (hbase : base ≤ w.heap.size)
    (h : ∀ v' w', OwnS w' base v' (ss ++ [t]) → Below base w w' → w.grownBy w' v.ownBlock → wpList Tryd.prog ops Q rest (a.put o.dst v') w') : wpList Tryd.prog ops Q (o :: rest) a w := by
  obtain ⟨i0, hi0, hz0, hz1, hz2⟩ := info_parts infoS
  refine wpList_append_own w hgd s x 60 ho base 9 i0 _ 1 16 Tryd.underlying60 hi0 hz0 hz1 hz2 rfl (by decide) v ss.length _ hs hown ad 1 c [.string t] hx rfl ?_ ?_ (by simp only [maxLen]; omega) (by omega) hbase ?_
  · intro j u hu
    rcases j with _ | j
    · simp at hu; subst hu; simpa [Addr.add] using hc
    · simp at hu
  · intro u hu; simp at hu; subst hu; rfl
  · intro v' w' hown' hg _
    exact h v' w' (by unfold OwnS; simpa using hown') ((Below.refl _ _).grown hg hbase fun g hg' => (hown.block hg').1) hg
/-- Texts and an error as an answer. -/
def URes (w : World) (r : List ByteArray × Int) (e : Ending) (w' : World) : Prop := ∃ v, e = .returned (.tuple #[v, .int .i64 r.2]) ∧ OwnS w' w.heap.size v r.1 ∧ Below w.heap.size w w'
theorem URes.of {w w' : World} {r : List ByteArray × Int} {l : List ByteArray} {u : Int} {v : Value} (hr : r = (l, u)) (ho : OwnS w' w.heap.size v l) (hb : Below w.heap.size w w') : URes w r (.returned (.tuple #[v, .int .i64 u])) w' := by
  subst hr
  exact ⟨v, rfl, ho, hb⟩
def lenOfV : Value → Nat
  | .slice _ n _ => n
  | _ => 0
theorem bI_take (l : List UInt8) (n : Nat) : bI (l.take n) = (bI l).take n := by unfold bI; rw [List.map_take]
theorem bI_drop (l : List UInt8) (n : Nat) : bI (l.drop n) = (bI l).drop n := by unfold bI; rw [List.map_drop]
theorem Rd.takeN {w : World} {B : Nat} {k : IntKind} {A : Option Addr} {zs : List Int} (h : Rd w B k A zs) (n : Nat) : Rd w B k A (zs.take n) := fun hn => by
  rw [List.length_take] at hn
  obtain ⟨ad, rfl, hb, hc⟩ := h (by omega)
  refine ⟨ad, rfl, hb, fun j hj => ?_⟩
  rw [List.length_take] at hj
  rw [hc j (by omega)]
  simp [List.getD, List.getElem?_take, show j < n by omega]
theorem unpF_one (last : ByteArray) (x : UInt8) (acc : List ByteArray) : unpF last [x] acc = ([], 11) := by rw [unpF]
theorem unpF_nil (last : ByteArray) (acc : List ByteArray) : unpF last [] acc = (acc, 0) := by rw [unpF]
theorem unpF_bad1 {last : ByteArray} {n m : UInt8} {r : List UInt8} {acc : List ByteArray} (h : last.size < n.toNat ∨ r.length < m.toNat ∨ acc.length = 300) : unpF last (n :: m :: r) acc = ([], 11) := by rw [unpF, if_pos h]
theorem unpF_bad2 {last : ByteArray} {n m : UInt8} {r : List UInt8} {acc : List ByteArray} (h0 : ¬ (last.size < n.toNat ∨ r.length < m.toNat ∨ acc.length = 300)) (h : Lib.compareBytes (keyB last n.toNat m.toNat r).data.toList last.data.toList < 0 ∨ lcp last.data.toList (keyB last n.toNat m.toNat r).data.toList ≠ n.toNat ∨ 100 < (keyB last n.toNat m.toNat r).size) : unpF last (n :: m :: r) acc = ([], 11) := by rw [unpF, if_neg h0, if_pos h]
theorem unpF_good {last : ByteArray} {n m : UInt8} {r : List UInt8} {acc : List ByteArray} (h0 : ¬ (last.size < n.toNat ∨ r.length < m.toNat ∨ acc.length = 300)) (h : ¬ (Lib.compareBytes (keyB last n.toNat m.toNat r).data.toList last.data.toList < 0 ∨ lcp last.data.toList (keyB last n.toNat m.toNat r).data.toList ≠ n.toNat ∨ 100 < (keyB last n.toNat m.toNat r).size)) : unpF last (n :: m :: r) acc = unpF (keyB last n.toNat m.toNat r) (r.drop m.toNat) (acc ++ [keyB last n.toNat m.toNat r]) := by rw [unpF, if_neg h0, if_neg h]
theorem keyB_app (last : ByteArray) (n m : Nat) (r : List UInt8) (h : n ≤ last.size) : last.extract 0 n ++ BA (r.take m) = keyB last n m r := by
  unfold keyB
  rw [BA_app, take_ext _ _ h]
  rfl

set_option maxHeartbeats 16000000 in
theorem Unpack_any (A : Option Addr) (b : List UInt8) (c : Nat) (w : World) (hl : b.length ≤ 200000) (hc : b.length ≤ c) (hm : c ≤ maxLen) (hr : Rd w w.heap.size .u8 A (bI b)) :
    Calls Tryd.prog 48 #[.slice A b.length c] w (URes w (unpF nos b [])) := by
  unfold maxLen at hm
  have HR := Lib.hid hr; clear hr
  obtain ⟨r, hrr⟩ : ∃ r, r = unpF nos b [] := ⟨_, rfl⟩
  rw [← hrr]
  have HRR := Lib.hid hrr; clear hrr
  obtain ⟨L, hL⟩ : ∃ L, L = b.length := ⟨_, rfl⟩
  rw [← hL] at hl hc ⊢
  have HL0 := Lib.hid hL; clear hL
  go_enter Tryd.func48, Tryd.ntmps48
  go_wp2_with fail
  go_loopw [0, 4, 5] (fun s o l wr => ∃ (A' : Option Addr) (L c' : Nat) (lb : List UInt8) (last : ByteArray) (acc : List ByteArray), s = .slice A' L c' ∧ Hid (L = lb.length) ∧ L ≤ 200000 ∧ L ≤ c' ∧ c' ≤ 9223372036854775807 ∧ l = .string last ∧ last.size ≤ 100 ∧ acc.length ≤ 300 ∧ OwnS wr w.heap.size o acc ∧ Hid (r = unpF last lb acc) ∧ Rd wr w.heap.size .u8 A' (bI lb) ∧ Below w.heap.size w wr) (fun s _ _ _ => lenOfV s)
  case atStart => exact ⟨A, L, c, b, nos, [], rfl, HL0, hl, hc, hm, rfl, by decide, by simp, OwnS.nil _ _, HRR, HR.out, Below.refl _ _⟩
  case round =>
    obtain ⟨A', L, c', lb, last, acc, rfl, HLL, hL2, hLc, hcm, rfl, hlast, hacc, hown, HREL, hrd, hbel⟩ := hrel
    have HO := Lib.hid hown
    have HB := Lib.hid hbel
    have HRD := Lib.hid hrd
    obtain ⟨Ao, co, rfl, _⟩ := hown.out
    clear hown hbel hrd
    match lb, HLL, HREL, HRD with
    | [], HLL, HREL, HRD =>
      have h0 : L = 0 := HLL.out
      have HE : Hid (r = (acc, 0)) := Lib.hid (by rw [HREL.out]; exact unpF_nil _ _)
      subst h0
      go_wp2_with fail
      go_ret2
      exact URes.of HE.out HO.out HB.out
    | [x], HLL, HREL, HRD =>
      have h0 : L = 1 := HLL.out
      have HE : Hid (r = ([], 11)) := Lib.hid (by rw [HREL.out]; exact unpF_one _ _ _)
      subst h0
      go_wp2_with fail
      go_ret2
      exact URes.of HE.out (OwnS.nil _ _) HB.out
    | n :: m :: rr, HLL, HREL, HRD =>
      have h0 : L = rr.length + 2 := HLL.out
      have i0 : (0 : Int) < L := by omega
      have i1 : ¬ (L : Int) < 2 := by omega
      have i2 : (1 : Int) < L := by omega
      obtain ⟨ad, rfl, hadb, hcells⟩ := HRD.out (by simp [bI])
      have k0 := hcells 0 (by simp [bI])
      have k1 := hcells 1 (by simp [bI])
      rw [bI_getD] at k0 k1
      have k0' : wr.cell? ad = some (.int .u8 (n.toNat : Int)) := by simpa [Addr.add] using k0
      have k1' : wr.cell? ⟨ad.block, ad.off + 1, none⟩ = some (.int .u8 (m.toNat : Int)) := by simpa [Addr.add] using k1
      clear k0 k1 hcells
      have hnb := byte_lt n
      have hmb := byte_lt m
      have HB1 := Lib.hid (fun h => unpF_bad1 (last := last) (n := n) (m := m) (r := rr) (acc := acc) h)
      have HB2 := Lib.hid (fun h0 h => unpF_bad2 (last := last) (n := n) (m := m) (r := rr) (acc := acc) h0 h)
      have HGD := Lib.hid (fun h0 h => unpF_good (last := last) (n := n) (m := m) (r := rr) (acc := acc) h0 h)
      by_cases h1 : last.size < n.toNat
      · have HE : Hid (r = ([], 11)) := Lib.hid (by rw [HREL.out]; exact HB1.out (.inl h1))
        have j1 : (last.size : Int) < n.toNat := by omega
        go_wp2_with fail
        go_ret2
        exact URes.of HE.out (OwnS.nil _ _) HB.out
      have j1 : ¬ (last.size : Int) < n.toNat := by omega
      by_cases h2 : rr.length < m.toNat
      · have HE : Hid (r = ([], 11)) := Lib.hid (by rw [HREL.out]; exact HB1.out (.inr (.inl h2)))
        have j2 : (L : Int) < 2 + (m.toNat : Int) := by omega
        go_wp2_with fail
        go_ret2
        exact URes.of HE.out (OwnS.nil _ _) HB.out
      have j2 : ¬ (L : Int) < 2 + (m.toNat : Int) := by omega
      by_cases h3 : acc.length = 300
      · have HE : Hid (r = ([], 11)) := Lib.hid (by rw [HREL.out]; exact HB1.out (.inr (.inr h3)))
        have j3 : ((acc.length : Int) == 300) = true := by rw [h3]; rfl
        clear h3
        go_wp2_with fail
        go_ret2
        exact URes.of HE.out (OwnS.nil _ _) HB.out
      have j3 : ((acc.length : Int) == 300) = false := by rw [beq_eq_false_iff_ne]; omega
      have hno : ¬ (last.size < n.toNat ∨ rr.length < m.toNat ∨ acc.length = 300) := by omega
      have HNO := Lib.hid hno; clear hno
      have i5 : (n.toNat : Int) ≤ last.size := by omega
      have i6 : (2 : Int) + (m.toNat : Int) ≤ L := by omega
      have i7 : (2 : Int) + (m.toNat : Int) ≤ c' := by omega
      have i8 : (0 : Int) ≤ n.toNat := by omega
      have i9 : (2 : Int) ≤ 2 + (m.toNat : Int) := by omega
      have hks := keyB_size (last := last) (n := n.toNat) (m := m.toNat) (r := rr) (by omega) (by omega)
      have HKA := Lib.hid (keyB_app last n.toNat m.toNat rr (by omega))
      have hz1 : (last.extract 0 n.toNat).size = n.toNat := by rw [ByteArray.size_extract]; omega
      have hz2 : (BA (rr.take m.toNat)).size = m.toNat := by rw [BA_size, List.length_take]; omega
      have i10 : ¬ (9223372036854775807 < (last.extract 0 n.toNat).size + (BA (rr.take m.toNat)).size) := by omega
      have HR2 : Hid (∀ A2, A2 = (if c' = 2 then some ad else (some ad).map (·.add 2)) → Rd wr w.heap.size .u8 A2 (bI (rr.take m.toNat))) := Lib.hid (fun A2 e => by
        have h := (HRD.out.cut (c := c') 2 (by simp [bI]) (by rw [bI_len]; have := HLL.out; omega)).takeN m.toNat
        rw [← e] at h
        rw [bI_take]
        simpa [bI] using h)
      have HCV : Hid (∀ A2 c2 W, Dr wr W → A2 = (if c' = 2 then some ad else (some ad).map (·.add 2)) → (convert 73 9 (.slice A2 m.toNat c2)).run Tryd.prog W = .ok (.string (BA (rr.take m.toNat))) W) := Lib.hid (fun A2 c2 W hd e => by
        have h := conv_bytes ((HR2.out A2 e).dr hd) c2
        rw [strOf_bI, bI_len, List.length_take, Nat.min_eq_left (by omega)] at h
        exact h)
      clear hz1 hz2 h1 h2 h3
      generalize keyB last n.toNat m.toNat rr = k at *
      by_cases hc2 : c' = 2
      · have hc2t : (c' = 2) = True := eq_true hc2
        have HC2 := Lib.hid hc2; clear hc2
        have hcv : ∀ W, Dr wr W → (convert 73 9 (.slice (some ad) m.toNat (c' - 2))).run Tryd.prog W = .ok (.string (BA (rr.take m.toNat))) W := fun W hd => HCV.out _ _ W hd (by rw [if_pos HC2.out])
        go_wp2_with fail
        go_quiet (fail)
        have HDq : Hid (Dr wr (wr.drewN nq)) := Lib.hid ⟨nq, rfl⟩
        have hcv2 := hcv _ HDq.out
        have hcv3 : ∀ q, _ := fun q => hcv _ (HDq.out.step q)
        generalize wr.drewN nq = wq at *
        go_wp2_with fail
        go_quiet (fail)
        have HDw := Lib.hid (HDq.out.step nq)
        clear hcv hcv2 hcv3 k0' k1'
        generalize wq.drewN nq = w7 at *
        rw [HKA.out]
        have HB7 := Lib.hid (Dr.below HB.out HDw.out)
        have HO7 := Lib.hid (HO.out.dr HDw.out)
        have hless : Op.bytesLess k.toList last.toList = decide (Lib.compareBytes k.data.toList last.data.toList < 0) := by rw [Lib.toList_data, Lib.toList_data]; exact less_cmp _ _
        by_cases hq1 : Lib.compareBytes k.data.toList last.data.toList < 0
        · have hls : Op.bytesLess k.toList last.toList = true := by rw [hless]; simpa using hq1
          have HE : Hid (r = ([], 11)) := Lib.hid (by rw [HREL.out]; exact HB2.out HNO.out (.inl hq1))
          clear hless hq1
          go_wp2_with fail
          go_ret2
          exact URes.of HE.out (OwnS.nil _ _) HB7.out
        have hls : Op.bytesLess k.toList last.toList = false := by rw [hless]; simpa using hq1
        have HCM := Lib.hid (fun W => common_any last k W (by unfold maxLen; omega) (by unfold maxLen; omega))
        by_cases hq2 : lcp last.data.toList k.data.toList = n.toNat
        · rw [hq2] at HCM
          by_cases hq3 : 100 < k.size
          · have HE : Hid (r = ([], 11)) := Lib.hid (by rw [HREL.out]; exact HB2.out HNO.out (.inr (.inr hq3)))
            have i12 : (100 : Int) < k.size := by omega
            clear hless hq1 hq2 hq3
            go_wp2_with fail
            refine (HCM.out _).mono ?_
            rintro e w8 ⟨rfl, hb8⟩
            have HB8 := Lib.hid (HB7.out.trans (hb8.mono HB7.out.size)); clear hb8
            go_wp2_with fail
            go_ret2
            exact URes.of HE.out (OwnS.nil _ _) HB8.out
          · have HG : Hid (r = unpF k (rr.drop m.toNat) (acc ++ [k])) := Lib.hid (by rw [HREL.out]; exact HGD.out HNO.out (by rintro (h | h | h); exact hq1 h; exact h hq2; exact hq3 h))
            have i12 : ¬ (100 : Int) < k.size := by omega
            have hkz : k.size ≤ 100 := by omega
            have hacc2 : acc.length < 300 := by have h := HNO.out; omega
            clear hless hq1 hq2 hq3
            go_wp2_with fail
            refine (HCM.out _).mono ?_
            rintro e w8 ⟨rfl, hb8⟩
            have HB8 := Lib.hid (HB7.out.trans (hb8.mono HB7.out.size))
            have HO8 := Lib.hid (HO7.out.below hb8 (Nat.le_refl _)); clear hb8
            have HO9 := Lib.hid (HO8.out.alloc (.cells #[.string k] 9))
            have HB9 := Lib.hid (HB8.out.alloc HB8.out.size (.cells #[.string k] 9))
            have HC9 := Lib.hid (new_cell w8 (.string k) 9)
            have HT : (2 + (m.toNat : Int)).toNat = 2 + m.toNat := by omega
            have HRN : Hid (∀ A2, A2 = (if c' = 2 + m.toNat then some ad else (some ad).map (·.add (2 + m.toNat))) → Rd wr w.heap.size .u8 A2 (bI (rr.drop m.toNat))) := Lib.hid (fun A2 e => by
              have h := HRD.out.cut (c := c') (2 + m.toNat) (by rw [bI_len]; simp; omega) (by rw [bI_len]; have := HLL.out; omega)
              rw [← e, ← bI_drop] at h
              have e2 : (n :: m :: rr).drop (2 + m.toNat) = rr.drop m.toNat := by rw [Nat.add_comm]; rfl
              rw [e2] at h
              exact h)
            have HRW : Hid (∀ A2, A2 = (if c' = 2 + m.toNat then some ad else (some ad).map (·.add (2 + m.toNat))) → Rd w w.heap.size .u8 A2 (bI (rr.drop m.toNat))) := Lib.hid (fun A2 e => (HRN.out A2 e).keep fun p hp => (HB.out.cell (p := p) hp).symm)
            by_cases hce : c' = 2 + m.toNat
            · go_wp2_with (at_builtin; refine app_str rfl (.tmp 71) (.tmp 73) rfl w.heap.size _ _ k rfl HO9.out ⟨w8.heap.size, 0, none⟩ 1 rfl HC9.out (by omega) HB9.out.size ?_; intro v4 w4 ho4 hb4 _; have HO4 := Lib.hid ho4; have HB4 := Lib.hid (HB9.out.trans hb4); clear ho4 hb4; have HRK : Hid (∀ A2, A2 = (if c' = 2 + m.toNat then some ad else (some ad).map (·.add (2 + m.toNat))) → Rd w4 w.heap.size .u8 A2 (bI (rr.drop m.toNat))) := Lib.hid (fun A2 e => (HRW.out A2 e).below HB4.out))
              go_roundw
              case rel => exact ⟨_, _, _, rr.drop m.toNat, k, acc ++ [k], rfl, Lib.hid (by rw [List.length_drop]; omega), by omega, by omega, by omega, rfl, hkz, by simp; omega, HO4.out, HG, HRK.out _ (by rw [if_pos hce]), HB4.out⟩
              case measure => simp [lenOfV]; omega
            · go_wp2_with (at_builtin; refine app_str rfl (.tmp 71) (.tmp 73) rfl w.heap.size _ _ k rfl HO9.out ⟨w8.heap.size, 0, none⟩ 1 rfl HC9.out (by omega) HB9.out.size ?_; intro v4 w4 ho4 hb4 _; have HO4 := Lib.hid ho4; have HB4 := Lib.hid (HB9.out.trans hb4); clear ho4 hb4; have HRK : Hid (∀ A2, A2 = (if c' = 2 + m.toNat then some ad else (some ad).map (·.add (2 + m.toNat))) → Rd w4 w.heap.size .u8 A2 (bI (rr.drop m.toNat))) := Lib.hid (fun A2 e => (HRW.out A2 e).below HB4.out))
              go_roundw
              case rel => exact ⟨_, _, _, rr.drop m.toNat, k, acc ++ [k], rfl, Lib.hid (by rw [List.length_drop]; omega), by omega, by omega, by omega, rfl, hkz, by simp; omega, HO4.out, HG, HRK.out _ (by rw [if_neg hce]; simp [Addr.add]), HB4.out⟩
              case measure => simp [lenOfV]; omega
        · have HE : Hid (r = ([], 11)) := Lib.hid (by rw [HREL.out]; exact HB2.out HNO.out (.inr (.inl hq2)))
          generalize lcp last.data.toList k.data.toList = lc at *
          have i13 : ((lc : Int) != (n.toNat : Int)) = true := by rw [bne_iff_ne]; omega
          clear hless hq1 hq2
          go_wp2_with fail
          refine (HCM.out _).mono ?_
          rintro e w8 ⟨rfl, hb8⟩
          have HB8 := Lib.hid (HB7.out.trans (hb8.mono HB7.out.size)); clear hb8
          go_wp2_with fail
          go_ret2
          exact URes.of HE.out (OwnS.nil _ _) HB8.out
      · have hcv : ∀ W, Dr wr W → (convert 73 9 (.slice (some ⟨ad.block, ad.off + 2, none⟩) m.toNat (c' - 2))).run Tryd.prog W = .ok (.string (BA (rr.take m.toNat))) W := fun W hd => HCV.out _ _ W hd (by rw [if_neg hc2]; simp [Addr.add])
        go_wp2_with fail
        go_quiet (fail)
        have HDq : Hid (Dr wr (wr.drewN nq)) := Lib.hid ⟨nq, rfl⟩
        have hcv2 := hcv _ HDq.out
        have hcv3 : ∀ q, _ := fun q => hcv _ (HDq.out.step q)
        generalize wr.drewN nq = wq at *
        go_wp2_with fail
        go_quiet (fail)
        have HDw := Lib.hid (HDq.out.step nq)
        clear hcv hcv2 hcv3 k0' k1'
        generalize wq.drewN nq = w7 at *
        rw [HKA.out]
        have HB7 := Lib.hid (Dr.below HB.out HDw.out)
        have HO7 := Lib.hid (HO.out.dr HDw.out)
        have hless : Op.bytesLess k.toList last.toList = decide (Lib.compareBytes k.data.toList last.data.toList < 0) := by rw [Lib.toList_data, Lib.toList_data]; exact less_cmp _ _
        by_cases hq1 : Lib.compareBytes k.data.toList last.data.toList < 0
        · have hls : Op.bytesLess k.toList last.toList = true := by rw [hless]; simpa using hq1
          have HE : Hid (r = ([], 11)) := Lib.hid (by rw [HREL.out]; exact HB2.out HNO.out (.inl hq1))
          clear hless hq1
          go_wp2_with fail
          go_ret2
          exact URes.of HE.out (OwnS.nil _ _) HB7.out
        have hls : Op.bytesLess k.toList last.toList = false := by rw [hless]; simpa using hq1
        have HCM := Lib.hid (fun W => common_any last k W (by unfold maxLen; omega) (by unfold maxLen; omega))
        by_cases hq2 : lcp last.data.toList k.data.toList = n.toNat
        · rw [hq2] at HCM
          by_cases hq3 : 100 < k.size
          · have HE : Hid (r = ([], 11)) := Lib.hid (by rw [HREL.out]; exact HB2.out HNO.out (.inr (.inr hq3)))
            have i12 : (100 : Int) < k.size := by omega
            clear hless hq1 hq2 hq3
            go_wp2_with fail
            refine (HCM.out _).mono ?_
            rintro e w8 ⟨rfl, hb8⟩
            have HB8 := Lib.hid (HB7.out.trans (hb8.mono HB7.out.size)); clear hb8
            go_wp2_with fail
            go_ret2
            exact URes.of HE.out (OwnS.nil _ _) HB8.out
          · have HG : Hid (r = unpF k (rr.drop m.toNat) (acc ++ [k])) := Lib.hid (by rw [HREL.out]; exact HGD.out HNO.out (by rintro (h | h | h); exact hq1 h; exact h hq2; exact hq3 h))
            have i12 : ¬ (100 : Int) < k.size := by omega
            have hkz : k.size ≤ 100 := by omega
            have hacc2 : acc.length < 300 := by have h := HNO.out; omega
            clear hless hq1 hq2 hq3
            go_wp2_with fail
            refine (HCM.out _).mono ?_
            rintro e w8 ⟨rfl, hb8⟩
            have HB8 := Lib.hid (HB7.out.trans (hb8.mono HB7.out.size))
            have HO8 := Lib.hid (HO7.out.below hb8 (Nat.le_refl _)); clear hb8
            have HO9 := Lib.hid (HO8.out.alloc (.cells #[.string k] 9))
            have HB9 := Lib.hid (HB8.out.alloc HB8.out.size (.cells #[.string k] 9))
            have HC9 := Lib.hid (new_cell w8 (.string k) 9)
            have HT : (2 + (m.toNat : Int)).toNat = 2 + m.toNat := by omega
            have HRN : Hid (∀ A2, A2 = (if c' = 2 + m.toNat then some ad else (some ad).map (·.add (2 + m.toNat))) → Rd wr w.heap.size .u8 A2 (bI (rr.drop m.toNat))) := Lib.hid (fun A2 e => by
              have h := HRD.out.cut (c := c') (2 + m.toNat) (by rw [bI_len]; simp; omega) (by rw [bI_len]; have := HLL.out; omega)
              rw [← e, ← bI_drop] at h
              have e2 : (n :: m :: rr).drop (2 + m.toNat) = rr.drop m.toNat := by rw [Nat.add_comm]; rfl
              rw [e2] at h
              exact h)
            have HRW : Hid (∀ A2, A2 = (if c' = 2 + m.toNat then some ad else (some ad).map (·.add (2 + m.toNat))) → Rd w w.heap.size .u8 A2 (bI (rr.drop m.toNat))) := Lib.hid (fun A2 e => (HRN.out A2 e).keep fun p hp => (HB.out.cell (p := p) hp).symm)
            by_cases hce : c' = 2 + m.toNat
            · go_wp2_with (at_builtin; refine app_str rfl (.tmp 71) (.tmp 73) rfl w.heap.size _ _ k rfl HO9.out ⟨w8.heap.size, 0, none⟩ 1 rfl HC9.out (by omega) HB9.out.size ?_; intro v4 w4 ho4 hb4 _; have HO4 := Lib.hid ho4; have HB4 := Lib.hid (HB9.out.trans hb4); clear ho4 hb4; have HRK : Hid (∀ A2, A2 = (if c' = 2 + m.toNat then some ad else (some ad).map (·.add (2 + m.toNat))) → Rd w4 w.heap.size .u8 A2 (bI (rr.drop m.toNat))) := Lib.hid (fun A2 e => (HRW.out A2 e).below HB4.out))
              go_roundw
              case rel => exact ⟨_, _, _, rr.drop m.toNat, k, acc ++ [k], rfl, Lib.hid (by rw [List.length_drop]; omega), by omega, by omega, by omega, rfl, hkz, by simp; omega, HO4.out, HG, HRK.out _ (by rw [if_pos hce]), HB4.out⟩
              case measure => simp [lenOfV]; omega
            · go_wp2_with (at_builtin; refine app_str rfl (.tmp 71) (.tmp 73) rfl w.heap.size _ _ k rfl HO9.out ⟨w8.heap.size, 0, none⟩ 1 rfl HC9.out (by omega) HB9.out.size ?_; intro v4 w4 ho4 hb4 _; have HO4 := Lib.hid ho4; have HB4 := Lib.hid (HB9.out.trans hb4); clear ho4 hb4; have HRK : Hid (∀ A2, A2 = (if c' = 2 + m.toNat then some ad else (some ad).map (·.add (2 + m.toNat))) → Rd w4 w.heap.size .u8 A2 (bI (rr.drop m.toNat))) := Lib.hid (fun A2 e => (HRW.out A2 e).below HB4.out))
              go_roundw
              case rel => exact ⟨_, _, _, rr.drop m.toNat, k, acc ++ [k], rfl, Lib.hid (by rw [List.length_drop]; omega), by omega, by omega, by omega, rfl, hkz, by simp; omega, HO4.out, HG, HRK.out _ (by rw [if_neg hce]; simp [Addr.add]), HB4.out⟩
              case measure => simp [lenOfV]; omega
        · have HE : Hid (r = ([], 11)) := Lib.hid (by rw [HREL.out]; exact HB2.out HNO.out (.inr (.inl hq2)))
          generalize lcp last.data.toList k.data.toList = lc at *
          have i13 : ((lc : Int) != (n.toNat : Int)) = true := by rw [bne_iff_ne]; omega
          clear hless hq1 hq2
          go_wp2_with fail
          refine (HCM.out _).mono ?_
          rintro e w8 ⟨rfl, hb8⟩
          have HB8 := Lib.hid (HB7.out.trans (hb8.mono HB7.out.size)); clear hb8
          go_wp2_with fail
          go_ret2
          exact URes.of HE.out (OwnS.nil _ _) HB8.out
end Go.Proofs.YtiddnacmopfamaaDoor
