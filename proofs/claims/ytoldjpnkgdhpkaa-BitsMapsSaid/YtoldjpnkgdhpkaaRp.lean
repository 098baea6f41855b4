/- Pack of the reference. -/
import Derived.Test.YtoldjpnkgdhpkaaEq
import Derived.Test.YtoldjpnkgdhpkaaR7
import Derived.Test.YtoldjpnkgdhpkaaL8
namespace Go.Proofs.Ytoldjpnkgdhpkaa
open Go.RowKit
set_option linter.unusedVariables false
set_option linter.unusedSimpArgs false
attribute [local go_sem ↓] Go.wp_at_zero Go.wp_at_succ

theorem step_bytes {w : World} {ops : Array Oper} {o : Oper} {a : Act} {K : Act → World → Prop} {Q : Exit → Act → World → Prop} {E : Prop} (hgd : o.guard = none) (s x : Operand)
    (ho : o.op = .call { callee := .builtin .append, args := #[s, x], argTypes := #[52, 52] })
    (base : Nat) (v : Value) (zs news : List Int) (hs : a.eval s = v) (hown : Own w base 5 .u8 v zs)
    (A : Option Addr) (m c : Nat) (hx : a.eval x = .slice A m c) (hm : m = news.length) (hpos : 0 < news.length) (B : Nat) (hr : Rd w B .u8 A news) (hlen : zs.length ≤ 100000) (hlen2 : news.length ≤ 100000) (hbase : base ≤ w.heap.size)
    (h : ∀ v' w', Own w' base 5 .u8 v' (zs ++ news) → Below base w w' → K (a.put o.dst v') w') :
    if Region.wanted o (yielded ops a.tmps) = true then Oper.wp Try.prog o a w K Q else E := by
  have hw : Region.wanted o (yielded ops a.tmps) = true := by simp [Region.wanted, hgd]
  rw [if_pos hw]
  obtain ⟨i0, hi0, hz0, hz1, hz2⟩ := info_parts info5
  obtain ⟨ad, rfl, _, hc⟩ := hr hpos
  subst hm
  refine wp_append_own w s x 52 ho base 5 i0 (.int .u8 0) 1 1 Try.underlying52 hi0 hz0 hz1 hz2 rfl (by decide) v zs.length _ hs hown ad news.length c (news.map (Value.int .u8)) hx (by simp) ?_ ?_ (by simp only [maxLen]; omega) (by omega) hbase ?_
  · intro j u hu
    rw [List.getElem?_map] at hu
    obtain ⟨z, hz, rfl⟩ := Option.map_eq_some_iff.1 hu
    have hj := (List.getElem?_eq_some_iff.1 hz).1
    rw [hc j hj, List.getD, hz]; rfl
  · intro u hu
    obtain ⟨z, _, rfl⟩ := List.mem_map.1 hu
    rfl
  · intro v' w' hown' hg _
    exact h v' w' (by unfold Own; simpa using hown') ((Below.refl _ _).grown hg hbase fun g hg' => (hown.block hg').1)
theorem numL_pos (n : Int) : 0 < (numL n).length := by unfold numL; split <;> simp

set_option maxHeartbeats 4000000 in
theorem refPack_yes (A : Option Addr) (c : Nat) (xs : List Int) (w : World) (h1 : Lk w w.heap.size A xs c) (hs : isSetB 300 xs = true) :
    Calls Try.prog 40 #[.slice A xs.length c] w fun e w' => ∃ v, e = .returned (.tuple #[v, .int .i64 0]) ∧ Own w' w.heap.size 5 .u8 v (packL 1 (rangesL xs)) ∧ Below w.heap.size w w' := by
  have hS := (IsS.iff xs).1 hs
  have hch := (rangesL_ok _ xs rfl hS).1
  have hrl : (rangesL xs).length ≤ 300 := Nat.le_trans (rangesL_len _) hS.length_le
  have HCH := Lib.hid hch; clear hch
  have HS := Lib.hid hS; clear hS
  have H1 := Lib.hid h1; clear h1
  have hcon : Hid (Calls Try.prog 36 #[.slice A xs.length c] w (PRes w (rangesL xs) 0)) := Lib.hid (by
    have h := refRanges_any A c xs w H1.out
    simpa [rgRL, rgRN, hs] using h)
  clear hs
  generalize hrs : rangesL xs = rs at *
  clear hrs
  go_enter Try.func40, Try.ntmps40
  go_wp2_with fail
  refine hcon.out.mono ?_
  rintro e w1 ⟨A', c', rfl, hown, hb1⟩
  have HO := Lib.hid hown; clear hown
  have HB1 := Lib.hid hb1; clear hb1
  go_wp2_with fail
  go_loopw [6, 7, 8] (fun v n i wr => ∃ k : Nat, k ≤ rs.length ∧ i = .int .i64 k ∧ n = .int .i64 (nextAt rs k - 1) ∧ Own wr w1.heap.size 5 .u8 v (packL 1 (rs.take k)) ∧ Below w1.heap.size w1 wr) (fun _ _ i _ => rs.length - (intOf i).toNat)
  case atStart => exact ⟨0, by omega, rfl, by simp [nextAt], by simpa [packL] using Own.nil _ _ _ _, Below.refl _ _⟩
  case round =>
    obtain ⟨k, hk, rfl, rfl, hv, hb⟩ := hrel
    by_cases hlt : k < rs.length
    · obtain ⟨g, c'', he, hg1, hg2, _, _, hcells, _⟩ := (HO.out.below hb (Nat.le_refl _)).form (by omega)
      obtain ⟨rfl, rfl⟩ : A' = some ⟨g, 0, none⟩ ∧ c' = c'' := by injection he with e1 e2 e3; exact ⟨e1, e3⟩
      have hg3 : g < w1.heap.size := (HO.out.block (g := g) rfl).2
      obtain ⟨hca, hcb⟩ := hcells k hlt
      obtain ⟨n1, n2, n3, n4⟩ := chain_at rs HCH.out hlt
      have hpt := pack_take rs hlt
      have hns := nextAt_succ rs hlt
      have hpl : (packL 1 (rs.take k)).length ≤ 1200 := Nat.le_trans (packL_len _ _) (by simp; omega)
      have HV := Lib.hid hv; clear hv
      have HB := Lib.hid hb; clear hb
      have HCE := Lib.hid hcells; clear hcells
      have HE := Lib.hid he; clear he
      have hbs := HB.out.size
      generalize rs.getD k (0, 0) = p at *
      obtain ⟨a, b⟩ := p
      obtain ⟨la, hla⟩ : ∃ la, la = nextAt rs k - 1 := ⟨_, rfl⟩
      have hnx : nextAt rs k = la + 1 := by omega
      rw [hnx] at n1 n2 hpt
      rw [show nextAt rs k - 1 = la from hla.symm]
      simp only at hca hcb n2 n3 n4 hpt hns
      have HPT := Lib.hid hpt; clear hpt
      have HNS := Lib.hid hns; clear hns
      clear hnx hla
      have j1 : (0 : Int) ≤ (k : Int) := by omega
      have j2 : (k : Int) < rs.length := by omega
      have hl1 := (numL_ok (a - la - 1) (by omega) (by omega)).2
      have hl2 := (numL_ok (b - a) (by omega) (by omega)).2
      go_wp2_with fail
      refine (number_any (a - la - 1) _ (by omega) (by omega)).mono ?_
      rintro e x1 ⟨N1, m1, rfl, hr1, _, hx1⟩
      have HX1 := Lib.hid hx1; clear hx1
      have HR1 := Lib.hid hr1; clear hr1
      have HV1 := Lib.hid (HV.out.below HX1.out (Nat.le_refl _))
      have hs1 := HX1.out.size
      have hca1 := (HX1.out.cell (p := ⟨g, k * 2, none⟩) (by simp; omega)).trans hca
      have hcb1 := (HX1.out.cell (p := ⟨g, k * 2 + 1, none⟩) (by simp; omega)).trans hcb
      clear hca hcb
      have hpos1 := numL_pos (a - la - 1)
      have hp1 : (packL 1 (rs.take k)).length ≤ 100000 := by omega
      have hp2 : (numL (a - la - 1)).length ≤ 100000 := by omega
      have hp3 : w1.heap.size ≤ x1.heap.size := by omega
      go_wp2_with (at_builtin; refine app_bytes rfl _ _ rfl w1.heap.size _ _ (numL (a - la - 1)) rfl HV1.out N1 (numL (a - la - 1)).length m1 rfl rfl hpos1 _ HR1.out hp1 hp2 hp3 ?_; intro v2 w2 ho2 hb2 _; have HO2 := Lib.hid ho2; have HB2 := Lib.hid hb2; clear ho2 hb2)
      have hw2 := HB2.out.size
      have hca2 : w2.cell? ⟨g, k * 2, none⟩ = some (.int .i64 a) := (HB2.out.cell (p := ⟨g, k * 2, none⟩) (by simp; omega)).trans hca1
      have hcb2 : w2.cell? ⟨g, k * 2 + 1, none⟩ = some (.int .i64 b) := (HB2.out.cell (p := ⟨g, k * 2 + 1, none⟩) (by simp; omega)).trans hcb1
      clear hca1 hcb1
      have hgw2 : g < w2.heap.size := by omega
      have hlx : (packL 1 (rs.take k) ++ numL (a - la - 1)).length ≤ 1300 := by rw [List.length_append]; omega
      have HO2d : Hid (Own w2.drew w1.heap.size 5 .u8 v2 (packL 1 (rs.take k) ++ numL (a - la - 1))) := Lib.hid (HO2.out.dr ⟨1, rfl⟩)
      have con2 : Hid (∀ W : World, Calls Try.prog 63 #[.int .i64 (b - a)] W fun e w' => ∃ (A : Option Addr) (c : Nat), e = .returned (.slice A (numL (b - a)).length c) ∧ Rd w' w'.heap.size .u8 A (numL (b - a)) ∧ (numL (b - a)).length ≤ c ∧ Below W.heap.size W w') := Lib.hid fun W => number_any (b - a) W (by omega) (by omega)
      have hpos2 := numL_pos (b - a)
      have hrw2 : IntKind.i64.wrap (b - a) = b - a := by simp [IntKind.wrap, IntKind.signed, IntKind.bits]; omega
      have hlx2 : (packL 1 (rs.take k) ++ numL (a - la - 1)).length ≤ 100000 := by omega
      have hln2 : (numL (b - a)).length ≤ 100000 := by omega
      have hw12 : w1.heap.size ≤ w2.drew.heap.size := by simp; omega
      go_region_held3 (fun y => y.cell? ⟨g, k * 2, none⟩ = some (.int .i64 a) ∧ y.cell? ⟨g, k * 2 + 1, none⟩ = some (.int .i64 b)) (first | exact ⟨hca2, hcb2⟩ | go_keep)
        (first
        | (go_at_call 63; (with_reducible refine (con2.out _).mono ?_); rintro e x3 ⟨N2, m2, rfl, hr3, _, hx3⟩;
           have HX3 := Lib.hid hx3; clear hx3;
           have HR3 := Lib.hid hr3; clear hr3;
           have HV3 := Lib.hid (HO2d.out.below HX3.out (Nat.le_refl _));
           have hs3 := HX3.out.size;
           have hb3 := Nat.le_trans hw12 hs3;
           have hca2 : x3.cell? ⟨g, k * 2, none⟩ = some (.int .i64 a) := (HX3.out.cell (p := ⟨g, k * 2, none⟩) hgw2).trans hca2;
           have hcb2 : x3.cell? ⟨g, k * 2 + 1, none⟩ = some (.int .i64 b) := (HX3.out.cell (p := ⟨g, k * 2 + 1, none⟩) hgw2).trans hcb2)
        | (refine step_bytes (by rfl) _ _ (by rfl) w1.heap.size _ _ (numL (b - a)) (by rfl) HV3.out N2 (numL (b - a)).length m2 (by rfl) rfl hpos2 _ HR3.out hlx2 hln2 hb3 ?_; intro v4 w4 ho4 hb4;
           have HO4 := Lib.hid ho4; have HB4 := Lib.hid hb4; clear ho4 hb4;
           have hca2 : w4.cell? ⟨g, k * 2, none⟩ = some (.int .i64 a) := (HB4.out.cell (p := ⟨g, k * 2, none⟩) hg3).trans hca2;
           have hcb2 : w4.cell? ⟨g, k * 2 + 1, none⟩ = some (.int .i64 b) := (HB4.out.cell (p := ⟨g, k * 2 + 1, none⟩) hg3).trans hcb2)
        | fail)
      go_wp2_with fail
      go_roundw
      case rel => exact ⟨k + 1, by omega, by go_num, by rw [HNS.out]; go_num, HO4.out.of_eq (by rw [HPT.out, List.append_assoc, show a - la - 1 = a - (la + 1) by omega]), ((HB.out.trans (HX1.out.mono hbs)).trans HB2.out).trans ((((Below.refl _ _).drew).trans (HX3.out.mono (by simp; omega))).trans HB4.out)⟩
      case measure => simp [intOf]; omega
    · have hkl : k = rs.length := by omega
      have HK := Lib.hid hkl; clear hkl
      have HV := Lib.hid hv; clear hv
      have HB := Lib.hid hb; clear hb
      go_wp2
      go_ret2
      exact ⟨_, rfl, (HV.out.of_eq (by rw [HK.out, List.take_length])).low HB1.out.size, HB1.out.trans (HB.out.mono HB1.out.size)⟩

set_option maxHeartbeats 2000000 in
theorem refPack_no (A : Option Addr) (c : Nat) (xs : List Int) (w : World) (h1 : Lk w w.heap.size A xs c) (hs : isSetB 300 xs = false) :
    Calls Try.prog 40 #[.slice A xs.length c] w fun e w' => e = .returned (.tuple #[.slice none 0 0, .int .i64 1]) ∧ Below w.heap.size w w' := by
  have H1 := Lib.hid h1; clear h1
  have hcon : Hid (Calls Try.prog 36 #[.slice A xs.length c] w (PRes w [] 1)) := Lib.hid (by
    have h := refRanges_any A c xs w H1.out
    simpa [rgRL, rgRN, hs] using h)
  clear hs
  go_enter Try.func40, Try.ntmps40
  go_wp2_with fail
  refine hcon.out.mono ?_
  rintro e w1 ⟨A', c', rfl, hown, hb1⟩
  have HB1 := Lib.hid hb1; clear hb1 hown
  go_wp2_with fail
  go_ret2
  exact ⟨rfl, HB1.out⟩
end Go.Proofs.Ytoldjpnkgdhpkaa
