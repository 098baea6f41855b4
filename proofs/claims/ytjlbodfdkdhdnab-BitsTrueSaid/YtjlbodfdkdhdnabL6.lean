/- The walk of BitsTrue. -/
import Derived.Test.YtjlbodfdkdhdnabTm
import Derived.Test.YtjlbodfdkdhdnabNt
import Derived.Deep.DeepCutAuto
import Derived.BigRegion
namespace Go.Proofs.Ytjlbodfdkdhdnab
open Go.RowKit
set_option linter.unusedVariables false
set_option linter.unusedSimpArgs false

def trN (s m y : List Int) : Int := if stB s m y then 0 else 1
theorem trN_cases (s m y : List Int) : trN s m y = 0 ∨ trN s m y = 1 := by unfold trN; cases stB s m y <;> simp
theorem if_pos' {w : World} {v : Bool} (hv : v = true) {R S : Ending → World → Prop} {P : Program} {f : FuncId} {args : Array Value} (h : Calls P f args w (if v then R else S)) : Calls P f args w R := by simpa [hv] using h

set_option maxRecDepth 40000 in
set_option maxHeartbeats 16000000 in
theorem bitsTrue_any (A A2 : Option Addr) (c c2 : Nat) (s m : List Int) (B1 B2 : Option Addr) (e1 e2 : Nat) (s2 m2 : List Int) (K L : Option Addr) (ck cl : Nat) (k l : List Int) (w : World) (h1 : In w A s c) (h2 : In w A2 m c2) (h3 : In w B1 s2 e1) (h4 : In w B2 m2 e2) (h5 : In w K k ck) (h6 : In w L l cl) :
    Calls Try.prog 6 #[.agg #[.slice A s.length c, .slice A2 m.length c2, .slice B1 s2.length e1, .slice B2 m2.length e2], .slice K k.length ck, .slice L l.length cl] w fun e w' => e = .returned (.bool true) ∧ Below w.heap.size w w' := by
  have l1 := h1.len; have l2 := h2.len; have l3 := h3.len; have l4 := h4.len; have l5 := h5.len; have l6 := h6.len
  generalize hoa : (decide (3000 < s.length) || decide (3000 < m.length)) = oa
  generalize hob : (decide (3000 < s2.length) || decide (3000 < m2.length)) = ob
  have HOA := Lib.hid hoa; clear hoa
  have HOB := Lib.hid hob; clear hob
  have H1 := Lib.hid h1; clear h1
  have H2 := Lib.hid h2; clear h2
  have H3 := Lib.hid h3; clear h3
  have H4 := Lib.hid h4; clear h4
  have H5 := Lib.hid h5; clear h5
  have H6 := Lib.hid h6; clear h6
  go_enter Try.func6, Try.ntmps6
  go_wp2_with fail
  go_cut [7, 8] (fun p7 p8 wx => ∃ g1 g2 : Nat, p7 = .pointer (some ⟨g1, 0, none⟩) ∧ p8 = .pointer (some ⟨g2, 0, none⟩) ∧ Bk wx g1 24 #[.slice A s.length c, .slice A2 m.length c2] ∧ Bk wx g2 24 #[.slice B1 s2.length e1, .slice B2 m2.length e2] ∧ Below w.heap.size w wx)
  case first =>
    go_region
    all_goals (go_wp2_with fail; go_meet)
    · exact ⟨_, _, rfl, rfl, (two_new _ _ _ _ _ _).1, (two_new _ _ _ _ _ _).2.1, (two_new _ _ _ _ _ _).2.2⟩
    · exact ⟨_, _, rfl, rfl, (two_new _ _ _ _ _ _).2.1, (two_new _ _ _ _ _ _).1, (two_new _ _ _ _ _ _).2.2⟩
  case rest =>
    obtain ⟨g1, g2, rfl, rfl, k1, k2, hb⟩ := hcut
    have t1 := k1.lt
    have t2 := k2.lt
    obtain ⟨q1, q2, _, _⟩ := two_cells k1
    obtain ⟨q3, q4, _, _⟩ := two_cells k2
    have K1 := Lib.hid k1; clear k1
    have K2 := Lib.hid k2; clear k2
    have HBc := Lib.hid hb; clear hb
    cases oa
    · cases ob
      · by_cases hk : 3000 < k.length
        · go_wp2_with fail
          refine (over_any A A2 c c2 s m _ l1 l2).mono ?_
          rintro e y1 ⟨rfl, hb1⟩
          rw [HOA.out]
          have HW1 := Lib.hid (HBc.out.trans (hb1.mono HBc.out.size))
          have HD1 := Lib.hid hb1
          clear hb1 q1 q2 q3 q4
          obtain ⟨q1, q2, _, _⟩ := two_cells (K1.out.below HD1.out t1)
          obtain ⟨q3, q4, _, _⟩ := two_cells (K2.out.below HD1.out t2)
          go_wp2_with fail
          refine (over_any B1 B2 e1 e2 s2 m2 _ l3 l4).mono ?_
          rintro e y2 ⟨rfl, hb2⟩
          rw [HOB.out]
          have HW2 := Lib.hid (HW1.out.trans (hb2.mono HW1.out.size))
          have HD2 := Lib.hid (HD1.out.trans (hb2.mono HD1.out.size))
          clear hb2 q1 q2 q3 q4
          obtain ⟨q1, q2, _, _⟩ := two_cells (K1.out.below HD2.out t1)
          obtain ⟨q3, q4, _, _⟩ := two_cells (K2.out.below HD2.out t2)
          go_wp2_with fail
          refine (known_any _).mono ?_
          rintro e y9 ⟨rfl, hb9⟩
          have HW9 := Lib.hid (HW2.out.trans (hb9.mono (by have := HW2.out.size; omega))); clear hb9
          go_wp2_with fail
          go_ret
          exact ⟨rfl, HW9.out⟩
        · by_cases hl : 3000 < l.length
          · go_wp2_with fail
            refine (over_any A A2 c c2 s m _ l1 l2).mono ?_
            rintro e y1 ⟨rfl, hb1⟩
            rw [HOA.out]
            have HW1 := Lib.hid (HBc.out.trans (hb1.mono HBc.out.size))
            have HD1 := Lib.hid hb1
            clear hb1 q1 q2 q3 q4
            obtain ⟨q1, q2, _, _⟩ := two_cells (K1.out.below HD1.out t1)
            obtain ⟨q3, q4, _, _⟩ := two_cells (K2.out.below HD1.out t2)
            go_wp2_with fail
            refine (over_any B1 B2 e1 e2 s2 m2 _ l3 l4).mono ?_
            rintro e y2 ⟨rfl, hb2⟩
            rw [HOB.out]
            have HW2 := Lib.hid (HW1.out.trans (hb2.mono HW1.out.size))
            have HD2 := Lib.hid (HD1.out.trans (hb2.mono HD1.out.size))
            clear hb2 q1 q2 q3 q4
            obtain ⟨q1, q2, _, _⟩ := two_cells (K1.out.below HD2.out t1)
            obtain ⟨q3, q4, _, _⟩ := two_cells (K2.out.below HD2.out t2)
            go_wp2_with fail
            refine (known_any _).mono ?_
            rintro e y9 ⟨rfl, hb9⟩
            have HW9 := Lib.hid (HW2.out.trans (hb9.mono (by have := HW2.out.size; omega))); clear hb9
            go_wp2_with fail
            go_ret
            exact ⟨rfl, HW9.out⟩
          · have ha := HOA.out; have hb := HOB.out
            simp only [Bool.or_eq_false_iff, decide_eq_false_iff_not] at ha hb
            have G1 := Lib.hid (H1.out.lk (by omega)); have G2 := Lib.hid (H2.out.lk (by omega)); have G3 := Lib.hid (H3.out.lk (by omega)); have G4 := Lib.hid (H4.out.lk (by omega)); have G5 := Lib.hid (H5.out.lk (by omega)); have G6 := Lib.hid (H6.out.lk (by omega))
            clear ha hb
            obtain ⟨i1, hi1⟩ : ∃ b, b = trOk s m k := ⟨_, rfl⟩
            obtain ⟨i2, hi2⟩ : ∃ b, b = trOk s2 m2 l := ⟨_, rfl⟩
            obtain ⟨n1, hn1⟩ : ∃ b, b = trN s m k := ⟨_, rfl⟩
            obtain ⟨n2, hn2⟩ : ∃ b, b = trN s2 m2 l := ⟨_, rfl⟩
            have C1 : Hid (∀ W, Below w.heap.size w W → Calls Try.prog 25 #[.agg #[.slice A s.length c, .slice A2 m.length c2], .slice K k.length ck] W (TRes W i1 n1)) := by rw [hi1, hn1]; exact Lib.hid fun W hb => true_any A A2 K c c2 ck s m k W ((G1.out.below hb).more hb.size) ((G2.out.below hb).more hb.size) ((G5.out.below hb).more hb.size)
            have C2 : Hid (∀ W, Below w.heap.size w W → Calls Try.prog 26 #[.agg #[.slice A s.length c, .slice A2 m.length c2], .slice K k.length ck] W (TRes W i1 n1)) := by rw [hi1, hn1]; exact Lib.hid fun W hb => refTrue_any A A2 K c c2 ck s m k W ((G1.out.below hb).more hb.size) ((G2.out.below hb).more hb.size) ((G5.out.below hb).more hb.size)
            have C3 : Hid (∀ W, Below w.heap.size w W → Calls Try.prog 25 #[.agg #[.slice B1 s2.length e1, .slice B2 m2.length e2], .slice L l.length cl] W (TRes W i2 n2)) := by rw [hi2, hn2]; exact Lib.hid fun W hb => true_any B1 B2 L e1 e2 cl s2 m2 l W ((G3.out.below hb).more hb.size) ((G4.out.below hb).more hb.size) ((G6.out.below hb).more hb.size)
            have N1 : n1 = 0 ∨ n1 = 1 := by rw [hn1]; exact trN_cases _ _ _
            have N2 : n2 = 0 ∨ n2 = 1 := by rw [hn2]; exact trN_cases _ _ _
            have HI1 := Lib.hid hi1; clear hi1
            have HI2 := Lib.hid hi2; clear hi2
            clear hn1 hn2
            go_wp2_with fail
            refine (over_any A A2 c c2 s m _ l1 l2).mono ?_
            rintro e y1 ⟨rfl, hb1⟩
            rw [HOA.out]
            have HW1 := Lib.hid (HBc.out.trans (hb1.mono HBc.out.size))
            have HD1 := Lib.hid hb1
            clear hb1 q1 q2 q3 q4
            obtain ⟨q1, q2, _, _⟩ := two_cells (K1.out.below HD1.out t1)
            obtain ⟨q3, q4, _, _⟩ := two_cells (K2.out.below HD1.out t2)
            go_wp2_with fail
            refine (over_any B1 B2 e1 e2 s2 m2 _ l3 l4).mono ?_
            rintro e y2 ⟨rfl, hb2⟩
            rw [HOB.out]
            have HW2 := Lib.hid (HW1.out.trans (hb2.mono HW1.out.size))
            have HD2 := Lib.hid (HD1.out.trans (hb2.mono HD1.out.size))
            clear hb2 q1 q2 q3 q4
            obtain ⟨q1, q2, _, _⟩ := two_cells (K1.out.below HD2.out t1)
            obtain ⟨q3, q4, _, _⟩ := two_cells (K2.out.below HD2.out t2)
            go_wp2_with fail
            refine (C1.out _ HW2.out).mono ?_
            rintro e x1 ⟨rfl, hb3⟩
            have HW3 := Lib.hid (HW2.out.trans (hb3.mono HW2.out.size))
            have HD3 := Lib.hid (HD2.out.trans (hb3.mono HD2.out.size))
            clear hb3 q1 q2 q3 q4
            obtain ⟨q1, q2, _, _⟩ := two_cells (K1.out.below HD3.out t1)
            obtain ⟨q3, q4, _, _⟩ := two_cells (K2.out.below HD3.out t2)
            go_wp2_with fail
            refine (C2.out _ HW3.out).mono ?_
            rintro e x2 ⟨rfl, hb4⟩
            have HW4 := Lib.hid (HW3.out.trans (hb4.mono HW3.out.size))
            have HD4 := Lib.hid (HD3.out.trans (hb4.mono HD3.out.size))
            clear hb4 q1 q2 q3 q4
            obtain ⟨q1, q2, _, _⟩ := two_cells (K1.out.below HD4.out t1)
            obtain ⟨q3, q4, _, _⟩ := two_cells (K2.out.below HD4.out t2)
            go_wp2_with fail
            refine (C3.out _ HW4.out).mono ?_
            rintro e x3 ⟨rfl, hb5⟩
            have HW5 := Lib.hid (HW4.out.trans (hb5.mono HW4.out.size))
            have HD5 := Lib.hid (HD4.out.trans (hb5.mono HD4.out.size))
            clear hb5 q1 q2 q3 q4
            rcases N1 with rfl | rfl
            · rcases N2 with rfl | rfl
              · cases i1
                · go_wp2_with fail
                  refine (known_any _).mono ?_
                  rintro e y9 ⟨rfl, hb9⟩
                  have HW9 := Lib.hid (HW5.out.trans (hb9.mono (by have := HW5.out.size; omega))); clear hb9
                  go_wp2_with fail
                  go_ret
                  exact ⟨rfl, HW9.out⟩
                · cases i2
                  · go_wp2_with fail
                    refine (known_any _).mono ?_
                    rintro e y9 ⟨rfl, hb9⟩
                    have HW9 := Lib.hid (HW5.out.trans (hb9.mono (by have := HW5.out.size; omega))); clear hb9
                    go_wp2_with fail
                    go_ret
                    exact ⟨rfl, HW9.out⟩
                  · have hok1 : trOk s m k = true := HI1.out.symm
                    have hok2 : trOk s2 m2 l = true := HI2.out.symm
                    clear C1 C2 C3
                    have T1 := Lib.hid (tr_in hok1 hok2)
                    have T2 := Lib.hid (tr_any hok1 hok2)
                    have T3 := Lib.hid (tr_no hok1)
                    have VA := Lib.hid (trOk_vb hok1)
                    have VB2 := Lib.hid (trOk_vb hok2)
                    have NB := Lib.hid (notB_ok hok1)
                    clear hok1 hok2
                    go_wp2_with fail
                    go_loopw [15, 16, 17, 18] (fun v1 v2 v3 i wr => ∃ j : Nat, j ≤ 300 ∧ i = .int .i64 (j + 1) ∧ Tri wr x3.heap.size v1 v2 v3 (inL k l j) (anyL k l j) (noL k j) ∧ Below x3.heap.size x3 wr) (fun _ _ _ i _ => 301 - (intOf i).toNat)
                    case atStart => exact ⟨0, by omega, rfl, Tri.nil _ _, Below.refl _ _⟩
                    case round =>
                      obtain ⟨j, hj, rfl, htri, hbr⟩ := hrel
                      have HT := Lib.hid htri; clear htri
                      have HB := Lib.hid hbr; clear hbr
                      by_cases hlt : j < 300
                      · have hl1 : (inL k l j).length ≤ 300 := fil_len _ _ hj
                        have hl2 : (anyL k l j).length ≤ 300 := fil_len _ _ hj
                        have hl3 : (noL k j).length ≤ 300 := fil_len _ _ hj
                        have RK := Lib.hid ((G5.out.below (HW5.out.trans (HB.out.mono HW5.out.size))).rd)
                        have RL := Lib.hid ((G6.out.below (HW5.out.trans (HB.out.mono HW5.out.size))).rd)
                        by_cases m1 : ((j : Int) + 1) ∈ k
                        · have hd1 : decide (((j : Int) + 1) ∈ k) = true := by simpa using m1
                          by_cases m2' : ((j : Int) + 1) ∈ l
                          · have hd2 : decide (((j : Int) + 1) ∈ l) = true := by simpa using m2'
                            have e1 := Lib.hid (fil_yes (fun x => decide (x ∈ k) && decide (x ∈ l)) j (by simp [m1, m2']))
                            have e2 := Lib.hid (fil_yes (fun x => decide (x ∈ k) || decide (x ∈ l)) j (by simp [m1]))
                            have e3 := Lib.hid (fil_no (fun x => !decide (x ∈ k)) j (by simp [m1]))
                            clear m1 m2'
                            go_wp2_with (first
                              | (go_at_call 27; (with_reducible refine (has_any _ _ k _ _ _ RK.out l5).mono ?_); rintro e w' ⟨rfl, rfl⟩)
                              | (go_at_call 27; (with_reducible refine (has_any _ _ l _ _ _ RL.out l6).mono ?_); rintro e w' ⟨rfl, rfl⟩)
                              | (at_builtin; refine app_int3 rfl _ _ rfl x3.heap.size _ _ ((j : Int) + 1) rfl (HT.out.alloc _).o1 ⟨wr.heap.size, 0, none⟩ 1 rfl (new_cell _ _ _) (by omega) (size_alloc HB.out.size _) ?_; intro v1' w1 ho1 hb1 hk1; have HT1 := Lib.hid ((HT.out.alloc _).put1 ho1 hk1); have HB1 := Lib.hid ((HB.out.alloc HB.out.size _).trans hb1); clear ho1 hb1 hk1)
                              | (at_builtin; refine app_int3 rfl _ _ rfl x3.heap.size _ _ ((j : Int) + 1) rfl (HT1.out.alloc _).o2 ⟨w1.heap.size, 0, none⟩ 1 rfl (new_cell _ _ _) (by omega) (size_alloc HB1.out.size _) ?_; intro v2' w2 ho2 hb2 hk2; have HT2 := Lib.hid ((HT1.out.alloc _).put2 ho2 hk2); have HB2 := Lib.hid ((HB1.out.alloc HB1.out.size _).trans hb2); clear ho2 hb2 hk2))
                            go_roundw
                            case rel => exact ⟨j + 1, by omega, by go_num, HT2.out.of_eq e1.out e2.out e3.out, HB2.out⟩
                            case measure => simp [intOf]; omega
                          · have hd2 : decide (((j : Int) + 1) ∈ l) = false := by simpa using m2'
                            have e1 := Lib.hid (fil_no (fun x => decide (x ∈ k) && decide (x ∈ l)) j (by simp [m2']))
                            have e2 := Lib.hid (fil_yes (fun x => decide (x ∈ k) || decide (x ∈ l)) j (by simp [m1]))
                            have e3 := Lib.hid (fil_no (fun x => !decide (x ∈ k)) j (by simp [m1]))
                            clear m1 m2'
                            go_wp2_with (first
                              | (go_at_call 27; (with_reducible refine (has_any _ _ k _ _ _ RK.out l5).mono ?_); rintro e w' ⟨rfl, rfl⟩)
                              | (go_at_call 27; (with_reducible refine (has_any _ _ l _ _ _ RL.out l6).mono ?_); rintro e w' ⟨rfl, rfl⟩)
                              | (at_builtin; refine app_int3 rfl _ _ rfl x3.heap.size _ _ ((j : Int) + 1) rfl (HT.out.alloc _).o2 ⟨wr.heap.size, 0, none⟩ 1 rfl (new_cell _ _ _) (by omega) (size_alloc HB.out.size _) ?_; intro v2' w2 ho2 hb2 hk2; have HT2 := Lib.hid ((HT.out.alloc _).put2 ho2 hk2); have HB2 := Lib.hid ((HB.out.alloc HB.out.size _).trans hb2); clear ho2 hb2 hk2))
                            go_roundw
                            case rel => exact ⟨j + 1, by omega, by go_num, HT2.out.of_eq e1.out e2.out e3.out, HB2.out⟩
                            case measure => simp [intOf]; omega
                        · have hd1 : decide (((j : Int) + 1) ∈ k) = false := by simpa using m1
                          by_cases m2' : ((j : Int) + 1) ∈ l
                          · have hd2 : decide (((j : Int) + 1) ∈ l) = true := by simpa using m2'
                            have e1 := Lib.hid (fil_no (fun x => decide (x ∈ k) && decide (x ∈ l)) j (by simp [m1]))
                            have e2 := Lib.hid (fil_yes (fun x => decide (x ∈ k) || decide (x ∈ l)) j (by simp [m2']))
                            have e3 := Lib.hid (fil_yes (fun x => !decide (x ∈ k)) j (by simp [m1]))
                            clear m1 m2'
                            go_wp2_with (first
                              | (go_at_call 27; (with_reducible refine (has_any _ _ k _ _ _ RK.out l5).mono ?_); rintro e w' ⟨rfl, rfl⟩)
                              | (go_at_call 27; (with_reducible refine (has_any _ _ l _ _ _ RL.out l6).mono ?_); rintro e w' ⟨rfl, rfl⟩)
                              | (at_builtin; refine app_int3 rfl _ _ rfl x3.heap.size _ _ ((j : Int) + 1) rfl (HT.out.alloc _).o2 ⟨wr.heap.size, 0, none⟩ 1 rfl (new_cell _ _ _) (by omega) (size_alloc HB.out.size _) ?_; intro v2' w2 ho2 hb2 hk2; have HT2 := Lib.hid ((HT.out.alloc _).put2 ho2 hk2); have HB2 := Lib.hid ((HB.out.alloc HB.out.size _).trans hb2); clear ho2 hb2 hk2)
                              | (at_builtin; refine app_int3 rfl _ _ rfl x3.heap.size _ _ ((j : Int) + 1) rfl (HT2.out.alloc _).o3 ⟨w2.heap.size, 0, none⟩ 1 rfl (new_cell _ _ _) (by omega) (size_alloc HB2.out.size _) ?_; intro v3' w3 ho3 hb3 hk3; have HT3 := Lib.hid ((HT2.out.alloc _).put3 ho3 hk3); have HB3 := Lib.hid ((HB2.out.alloc HB2.out.size _).trans hb3); clear ho3 hb3 hk3))
                            go_roundw
                            case rel => exact ⟨j + 1, by omega, by go_num, HT3.out.of_eq e1.out e2.out e3.out, HB3.out⟩
                            case measure => simp [intOf]; omega
                          · have hd2 : decide (((j : Int) + 1) ∈ l) = false := by simpa using m2'
                            have e1 := Lib.hid (fil_no (fun x => decide (x ∈ k) && decide (x ∈ l)) j (by simp [m1]))
                            have e2 := Lib.hid (fil_no (fun x => decide (x ∈ k) || decide (x ∈ l)) j (by simp [m1, m2']))
                            have e3 := Lib.hid (fil_yes (fun x => !decide (x ∈ k)) j (by simp [m1]))
                            clear m1 m2'
                            go_wp2_with (first
                              | (go_at_call 27; (with_reducible refine (has_any _ _ k _ _ _ RK.out l5).mono ?_); rintro e w' ⟨rfl, rfl⟩)
                              | (go_at_call 27; (with_reducible refine (has_any _ _ l _ _ _ RL.out l6).mono ?_); rintro e w' ⟨rfl, rfl⟩)
                              | (at_builtin; refine app_int3 rfl _ _ rfl x3.heap.size _ _ ((j : Int) + 1) rfl (HT.out.alloc _).o3 ⟨wr.heap.size, 0, none⟩ 1 rfl (new_cell _ _ _) (by omega) (size_alloc HB.out.size _) ?_; intro v3' w3 ho3 hb3 hk3; have HT3 := Lib.hid ((HT.out.alloc _).put3 ho3 hk3); have HB3 := Lib.hid ((HB.out.alloc HB.out.size _).trans hb3); clear ho3 hb3 hk3))
                            go_roundw
                            case rel => exact ⟨j + 1, by omega, by go_num, HT3.out.of_eq e1.out e2.out e3.out, HB3.out⟩
                            case measure => simp [intOf]; omega
                      · obtain rfl : j = 300 := by omega
                        clear hlt hj
                        have HWr := Lib.hid (HW5.out.trans (HB.out.mono HW5.out.size))
                        have HDr := Lib.hid (HD5.out.trans (HB.out.mono HD5.out.size))
                        have hsr := HB.out.size
                        have hs5 := HD5.out.size
                        obtain ⟨V1, d1, rfl, _, _, _⟩ := HT.out.o1.out
                        obtain ⟨V2, d2, rfl, _, _, _⟩ := HT.out.o2.out
                        obtain ⟨V3, d3, rfl, _, _, _⟩ := HT.out.o3.out
                        have X1 := Lib.hid (HT.out.o1.lkS (isS_fil _))
                        have X2 := Lib.hid (HT.out.o2.lkS (isS_fil _))
                        have X3 := Lib.hid (HT.out.o3.lkS (isS_fil _))
                        have M1 : Hid (∀ W, Below w.heap.size w W → Calls Try.prog 14 #[.agg #[.slice A s.length c, .slice A2 m.length c2], .agg #[.slice B1 s2.length e1, .slice B2 m2.length e2]] W (KRes W (interL s s2) (interL m m2) 0)) := Lib.hid fun W hb => if_pos' (by rw [VA.out, VB2.out]; rfl) (and_any A A2 B1 B2 c c2 e1 e2 s m s2 m2 W ((G1.out.below hb).more hb.size) ((G2.out.below hb).more hb.size) ((G3.out.below hb).more hb.size) ((G4.out.below hb).more hb.size))
                        have M2 : Hid (∀ W, Below w.heap.size w W → Calls Try.prog 16 #[.agg #[.slice A s.length c, .slice A2 m.length c2], .agg #[.slice B1 s2.length e1, .slice B2 m2.length e2]] W (KRes W (unionL s s2) (unionL m m2) 0)) := Lib.hid fun W hb => if_pos' (by rw [VA.out, VB2.out]; rfl) (or_any A A2 B1 B2 c c2 e1 e2 s m s2 m2 W ((G1.out.below hb).more hb.size) ((G2.out.below hb).more hb.size) ((G3.out.below hb).more hb.size) ((G4.out.below hb).more hb.size))
                        have M3 : Hid (∀ W, Below w.heap.size w W → Calls Try.prog 21 #[.agg #[.slice A s.length c, .slice A2 m.length c2], .int .i64 300] W (KRes W (lessL (upTo 300) m) (lessL (upTo 300) s) 0)) := Lib.hid fun W hb => if_pos' NB.out (not_any A A2 c c2 s m 300 W ((G1.out.below hb).more hb.size) ((G2.out.below hb).more hb.size))
                        have R1 : Hid (∀ (D E : Option Addr) (d f : Nat) (W : World), Lk W W.heap.size D (interL s s2) d → Lk W W.heap.size E (interL m m2) f → Below wr.heap.size wr W → Calls Try.prog 25 #[.agg #[.slice D (interL s s2).length d, .slice E (interL m m2).length f], .slice V1 (inL k l 300).length d1] W (TRes W true 0)) :=
                          Lib.hid fun D E d f W a b hb => trTrue_of T1.out (true_any D E V1 d f d1 _ _ _ W a b ((X1.out.below hb).more hb.size))
                        have R2 : Hid (∀ (D E : Option Addr) (d f : Nat) (W : World), Lk W W.heap.size D (unionL s s2) d → Lk W W.heap.size E (unionL m m2) f → Below wr.heap.size wr W → Calls Try.prog 25 #[.agg #[.slice D (unionL s s2).length d, .slice E (unionL m m2).length f], .slice V2 (anyL k l 300).length d2] W (TRes W true 0)) :=
                          Lib.hid fun D E d f W a b hb => trTrue_of T2.out (true_any D E V2 d f d2 _ _ _ W a b ((X2.out.below hb).more hb.size))
                        have R3 : Hid (∀ (D E : Option Addr) (d f : Nat) (W : World), Lk W W.heap.size D (lessL (upTo 300) m) d → Lk W W.heap.size E (lessL (upTo 300) s) f → Below wr.heap.size wr W → Calls Try.prog 25 #[.agg #[.slice D (lessL (upTo 300) m).length d, .slice E (lessL (upTo 300) s).length f], .slice V3 (noL k 300).length d3] W (TRes W true 0)) :=
                          Lib.hid fun D E d f W a b hb => trTrue_of T3.out (true_any D E V3 d f d3 _ _ _ W a b ((X3.out.below hb).more hb.size))
                        have I1 := Lib.hid (trOk_is T1.out)
                        have I2 := Lib.hid (trOk_is T2.out)
                        have I3 := Lib.hid (trOk_is T3.out)
                        generalize interL s s2 = z1 at *
                        generalize interL m m2 = z2 at *
                        generalize unionL s s2 = z3 at *
                        generalize unionL m m2 = z4 at *
                        generalize lessL (upTo 300) m = z5 at *
                        generalize lessL (upTo 300) s = z6 at *
                        generalize inL k l 300 = y1 at *
                        generalize anyL k l 300 = y2 at *
                        generalize noL k 300 = y3 at *
                        clear HT X1 X2 X3 T1 T2 T3 VA VB2 NB HI1 HI2 H1 H2 H3 H4 H5 H6 G1 G2 G3 G4 G5 G6
                        obtain ⟨q1, q2, _, _⟩ := two_cells (K1.out.below HDr.out t1)
                        obtain ⟨q3, q4, _, _⟩ := two_cells (K2.out.below HDr.out t2)
                        go_wp2_with fail
                        refine (M1.out _ HWr.out).mono ?_
                        rintro e a1 ⟨D1, f1, E1, u1, rfl, ho1, hp1, hb1⟩
                        have HA1 := Lib.hid (HWr.out.trans (hb1.mono HWr.out.size))
                        have HE1 := Lib.hid (HDr.out.trans (hb1.mono HDr.out.size))
                        have HB1 := Lib.hid hb1; clear hb1
                        have L1 := Lib.hid (ho1.lkS I1.out.1); clear ho1
                        have P1 := Lib.hid (hp1.lkS I1.out.2); clear hp1
                        clear q1 q2 q3 q4
                        obtain ⟨q1, q2, _, _⟩ := two_cells (K1.out.below HE1.out t1)
                        obtain ⟨q3, q4, _, _⟩ := two_cells (K2.out.below HE1.out t2)
                        have t3 : g1 < a1.heap.size := Nat.lt_of_lt_of_le t1 HE1.out.size
                        have t4 : g2 < a1.heap.size := Nat.lt_of_lt_of_le t2 HE1.out.size
                        go_wp2_with fail
                        refine (M2.out _ (HA1.out.alloc HA1.out.size _)).mono ?_
                        rintro e a2 ⟨D2, f2, E2, u2, rfl, ho2, hp2, hb2⟩
                        have J1 := Lib.hid ((Bk.new a1 _ _).below hb2 (by simp))
                        have HB12 := Lib.hid ((Below.of_alloc a1 _ _ (Nat.le_refl _)).trans (hb2.mono (by simp)))
                        have hz2 : a1.heap.size + 1 ≤ a2.heap.size := by have := hb2.size; simpa using this
                        have HA2 := Lib.hid (HA1.out.trans (HB12.out.mono HA1.out.size))
                        have HE2 := Lib.hid (HE1.out.trans (HB12.out.mono HE1.out.size))
                        have L2 := Lib.hid (ho2.lkS I2.out.1); clear ho2
                        have P2 := Lib.hid (hp2.lkS I2.out.2); clear hp2
                        clear q1 q2 q3 q4 hb2
                        obtain ⟨q1, q2, _, _⟩ := two_cells (K1.out.below HE2.out t1)
                        have t5 : g1 < a2.heap.size := Nat.lt_of_lt_of_le t1 HE2.out.size
                        go_wp2_with fail
                        refine (M3.out _ (HA2.out.alloc HA2.out.size _)).mono ?_
                        rintro e a3 ⟨D3, f3, E3, u3, rfl, ho3, hp3, hb3⟩
                        have J2 := Lib.hid ((Bk.new a2 _ _).below hb3 (by simp))
                        have J1b := Lib.hid ((J1.out.alloc _).below hb3 (by simp; omega)); clear J1
                        have HB23 := Lib.hid ((Below.of_alloc a2 _ _ (Nat.le_refl _)).trans (hb3.mono (by simp)))
                        have hz3 : a2.heap.size + 1 ≤ a3.heap.size := by have := hb3.size; simpa using this
                        have HA3 := Lib.hid (HA2.out.trans (HB23.out.mono HA2.out.size))
                        have L3 := Lib.hid (ho3.lkS I3.out.1); clear ho3
                        have P3 := Lib.hid (hp3.lkS I3.out.2); clear hp3
                        clear q1 q2 hb3
                        obtain ⟨q1, q2, _, _⟩ := two_cells J1b.out
                        have t6 : a1.heap.size < a3.heap.size := by omega
                        obtain ⟨X, hX⟩ : ∃ X, X = a3.alloc (.cells #[.slice D3 z5.length f3, .slice E3 z6.length u3] 24) := ⟨_, rfl⟩
                        have hXs : X.heap.size = a3.heap.size + 1 := by rw [hX]; simp
                        have B3X : Below a3.heap.size a3 X := by rw [hX]; exact Below.of_alloc _ _ _ (Nat.le_refl _)
                        have J3 : Bk X a3.heap.size 24 #[.slice D3 z5.length f3, .slice E3 z6.length u3] := by rw [hX]; exact Bk.new _ _ _
                        have J2X := J2.out.below B3X J2.out.lt
                        have B2X := HB23.out.trans (B3X.mono (by omega))
                        have B1X := HB12.out.trans (B2X.mono (by omega))
                        have BrX := HB1.out.trans (B1X.mono HB1.out.size)
                        have BWX := Lib.hid (HWr.out.trans (BrX.mono HWr.out.size))
                        have hsX := BrX.size
                        have Q1 : Hid (Calls Try.prog 25 #[.agg #[.slice D1 z1.length f1, .slice E1 z2.length u1], .slice V1 y1.length d1] X (TRes X true 0)) := Lib.hid (R1.out _ _ _ _ _ ((L1.out.below B1X).more (by omega)) ((P1.out.below B1X).more (by omega)) BrX)
                        have Q2 : Hid (∀ W, Below X.heap.size X W → Calls Try.prog 25 #[.agg #[.slice D2 z3.length f2, .slice E2 z4.length u2], .slice V2 y2.length d2] W (TRes W true 0)) := Lib.hid fun W hb => R2.out _ _ _ _ _ ((((L2.out.below B2X).more (by omega)).below hb).more hb.size) ((((P2.out.below B2X).more (by omega)).below hb).more hb.size) (BrX.trans (hb.mono hsX))
                        have Q3 : Hid (∀ W, Below X.heap.size X W → Calls Try.prog 25 #[.agg #[.slice D3 z5.length f3, .slice E3 z6.length u3], .slice V3 y3.length d3] W (TRes W true 0)) := Lib.hid fun W hb => R3.out _ _ _ _ _ ((((L3.out.below B3X).more (by omega)).below hb).more hb.size) ((((P3.out.below B3X).more (by omega)).below hb).more hb.size) (BrX.trans (hb.mono hsX))
                        have JJ := Lib.hid (And.intro J2X J3); clear J2X J3 J2 J1b
                        have w2X : a2.heap.size < X.heap.size := by omega
                        have w3X : a3.heap.size < X.heap.size := by omega
                        have HX := Lib.hid hX; clear hX
                        clear L1 L2 L3 P1 P2 P3 R1 R2 R3 M1 M2 M3 B1X B2X B3X BrX HB12 HB23 HB1 HA1 HA2 HA3 HE1 HE2 HD1 HD2 HD3 HD4 HD5 HW1 HW2 HW3 HW4 HW5 HB HWr HDr K1 K2
                        go_wp2_with fail
                        rw [← HX.out]
                        clear HX
                        refine Q1.out.mono ?_
                        rintro e b1 ⟨rfl, hb7⟩
                        have HB7 := Lib.hid hb7
                        obtain ⟨q5, q6, _, _⟩ := two_cells (JJ.out.1.below hb7 w2X)
                        obtain ⟨q7, q8, _, _⟩ := two_cells (JJ.out.2.below hb7 w3X)
                        clear q1 q2 hb7
                        go_wp2_with fail
                        refine (Q2.out _ HB7.out).mono ?_
                        rintro e b2 ⟨rfl, hb8⟩
                        have HB8 := Lib.hid (HB7.out.trans (hb8.mono HB7.out.size))
                        clear q5 q6 q7 q8 hb8
                        obtain ⟨q7, q8, _, _⟩ := two_cells (JJ.out.2.below HB8.out w3X)
                        go_wp2_with fail
                        refine (Q3.out _ HB8.out).mono ?_
                        rintro e b3 ⟨rfl, hb9⟩
                        have HB9 := Lib.hid (HB8.out.trans (hb9.mono HB8.out.size))
                        clear q7 q8 hb9
                        go_wp2_with fail
                        refine (known_any _).mono ?_
                        rintro e b4 ⟨rfl, hb10⟩
                        have HB10 := Lib.hid (HB9.out.trans (hb10.mono HB9.out.size)); clear hb10
                        go_wp2_with fail
                        go_ret
                        exact ⟨rfl, BWX.out.trans (HB10.out.mono BWX.out.size)⟩
              · go_wp2_with fail
                refine (known_any _).mono ?_
                rintro e y9 ⟨rfl, hb9⟩
                have HW9 := Lib.hid (HW5.out.trans (hb9.mono (by have := HW5.out.size; omega))); clear hb9
                go_wp2_with fail
                go_ret
                exact ⟨rfl, HW9.out⟩
            · go_wp2_with fail
              refine (known_any _).mono ?_
              rintro e y9 ⟨rfl, hb9⟩
              have HW9 := Lib.hid (HW5.out.trans (hb9.mono (by have := HW5.out.size; omega))); clear hb9
              go_wp2_with fail
              go_ret
              exact ⟨rfl, HW9.out⟩
      · go_wp2_with fail
        refine (over_any A A2 c c2 s m _ l1 l2).mono ?_
        rintro e y1 ⟨rfl, hb1⟩
        rw [HOA.out]
        have HW1 := Lib.hid (HBc.out.trans (hb1.mono HBc.out.size))
        have HD1 := Lib.hid hb1
        clear hb1 q1 q2 q3 q4
        obtain ⟨q1, q2, _, _⟩ := two_cells (K1.out.below HD1.out t1)
        obtain ⟨q3, q4, _, _⟩ := two_cells (K2.out.below HD1.out t2)
        go_wp2_with fail
        refine (over_any B1 B2 e1 e2 s2 m2 _ l3 l4).mono ?_
        rintro e y2 ⟨rfl, hb2⟩
        rw [HOB.out]
        have HW2 := Lib.hid (HW1.out.trans (hb2.mono HW1.out.size))
        have HD2 := Lib.hid (HD1.out.trans (hb2.mono HD1.out.size))
        clear hb2 q1 q2 q3 q4
        obtain ⟨q1, q2, _, _⟩ := two_cells (K1.out.below HD2.out t1)
        obtain ⟨q3, q4, _, _⟩ := two_cells (K2.out.below HD2.out t2)
        go_wp2_with fail
        refine (known_any _).mono ?_
        rintro e y9 ⟨rfl, hb9⟩
        have HW9 := Lib.hid (HW2.out.trans (hb9.mono (by have := HW2.out.size; omega))); clear hb9
        go_wp2_with fail
        go_ret
        exact ⟨rfl, HW9.out⟩
    · go_wp2_with fail
      refine (over_any A A2 c c2 s m _ l1 l2).mono ?_
      rintro e y1 ⟨rfl, hb1⟩
      rw [HOA.out]
      have HW1 := Lib.hid (HBc.out.trans (hb1.mono HBc.out.size))
      have HD1 := Lib.hid hb1
      clear hb1 q1 q2 q3 q4
      obtain ⟨q1, q2, _, _⟩ := two_cells (K1.out.below HD1.out t1)
      obtain ⟨q3, q4, _, _⟩ := two_cells (K2.out.below HD1.out t2)
      go_wp2_with fail
      refine (known_any _).mono ?_
      rintro e y9 ⟨rfl, hb9⟩
      have HW9 := Lib.hid (HW1.out.trans (hb9.mono (by have := HW1.out.size; omega))); clear hb9
      go_wp2_with fail
      go_ret
      exact ⟨rfl, HW9.out⟩
end Go.Proofs.Ytjlbodfdkdhdnab
