/- Pack of the program. -/
import Derived.Test.YtoldjpnkgdhpkaaP3
namespace Go.Proofs.Ytoldjpnkgdhpkaa
open Go.RowKit
set_option linter.unusedVariables false
set_option linter.unusedSimpArgs false

theorem Own.ne_block {w : World} {base g : Nat} {e t : TypeId} {k : IntKind} {v : Value} {zs : List Int} {cs : Array Value} (h : Own w base e k v zs) (hb : Bk w g t cs) (hne : e ≠ t) : v.ownBlock ≠ some g := by
  rcases h.2 with ⟨rfl, _⟩ | ⟨g', cap, cur, rfl, _, hh, _⟩
  · simp [Value.ownBlock]
  · intro he
    have : g' = g := by simpa [Value.ownBlock] using he
    subst this
    unfold Bk at hb
    rw [hh] at hb
    injection hb with hb
    injection hb with _ ht
    exact hne ht
/-- The number behind the first k stretches. -/
def nextAt (rs : List (Int × Int)) (k : Nat) : Int := match (rs.take k).getLast? with | some (_, y) => y + 1 | none => 1
theorem take_snocP (rs : List (Int × Int)) {k : Nat} (h : k < rs.length) : rs.take (k + 1) = rs.take k ++ [rs.getD k (0, 0)] := by
  rw [List.take_succ_eq_append_getElem h, List.getD, List.getElem?_eq_getElem h]; rfl
theorem nextAt_succ (rs : List (Int × Int)) {k : Nat} (h : k < rs.length) : nextAt rs (k + 1) = (rs.getD k (0, 0)).2 + 1 := by
  unfold nextAt; rw [take_snocP rs h, List.getLast?_concat]
theorem pack_take (rs : List (Int × Int)) {k : Nat} (h : k < rs.length) :
    packL 1 (rs.take (k + 1)) = packL 1 (rs.take k) ++ (numL ((rs.getD k (0, 0)).1 - nextAt rs k) ++ numL ((rs.getD k (0, 0)).2 - (rs.getD k (0, 0)).1)) := by
  rw [take_snocP rs h]; exact packL_snoc _ _ _ _
theorem packL_len : ∀ (rs : List (Int × Int)) (n : Int), (packL n rs).length ≤ 4 * rs.length
  | [], _ => by simp [packL]
  | (a, b) :: rs, n => by
    have h1 : ∀ z : Int, (numL z).length ≤ 2 := fun z => by unfold numL; split <;> simp
    have := packL_len rs (b + 1); have := h1 (a - n); have := h1 (b - a)
    simp only [packL, List.length_append, List.length_cons]; omega
theorem chain_at (rs : List (Int × Int)) (hc : Chain 1 rs) {k : Nat} (h : k < rs.length) :
    1 ≤ nextAt rs k ∧ nextAt rs k ≤ (rs.getD k (0, 0)).1 ∧ (rs.getD k (0, 0)).1 ≤ (rs.getD k (0, 0)).2 ∧ (rs.getD k (0, 0)).2 ≤ 300 := by
  have key : ∀ (rs : List (Int × Int)) (n : Int) (k : Nat), 1 ≤ n → Chain n rs → k < rs.length →
      1 ≤ (match (rs.take k).getLast? with | some (_, y) => y + 1 | none => n) ∧ (match (rs.take k).getLast? with | some (_, y) => y + 1 | none => n) ≤ (rs.getD k (0, 0)).1 ∧ (rs.getD k (0, 0)).1 ≤ (rs.getD k (0, 0)).2 ∧ (rs.getD k (0, 0)).2 ≤ 300 := by
    intro rs
    induction rs with
    | nil => intro n k _ _ h; simp at h
    | cons p rs ih =>
      intro n k hn hc h
      obtain ⟨a, b⟩ := p
      obtain ⟨h1, h2, h3, h4⟩ := hc
      rcases k with _ | k
      · simp; omega
      · have := ih (b + 1) k (by omega) h4 (by simpa using h)
        have e : ((a, b) :: rs).take (k + 1) = (a, b) :: rs.take k := rfl
        rw [e]
        rcases hr : rs.take k with _ | ⟨q, r⟩
        · rw [hr] at this; simpa using this
        · rw [hr] at this
          rw [List.getLast?_cons_cons]
          obtain ⟨z, hz⟩ : ∃ z, (q :: r).getLast? = some z := by
            cases hh : (q :: r).getLast? with
            | none => simp at hh
            | some z => exact ⟨z, rfl⟩
          rw [hz] at this ⊢
          simpa using this
  exact key rs 1 k (by omega) hc h

set_option maxHeartbeats 1000000 in
theorem pack_no (A : Option Addr) (c : Nat) (xs : List Int) (w : World) (h1 : Lk w w.heap.size A xs c) (hs : isSetB 300 xs = false) :
    Calls Try.prog 39 #[.slice A xs.length c] w fun e w' => e = .returned (.tuple #[.slice none 0 0, .int .i64 1]) ∧ w = w' := by
  have H1 := Lib.hid h1; clear h1
  go_enter Try.func39, Try.ntmps39
  go_wp2_with fail
  refine (ranges_no A c xs _ H1.out hs).mono ?_
  rintro e w' ⟨rfl, rfl⟩
  go_wp2_with fail
  go_ret2
  exact ⟨rfl, rfl⟩

set_option maxHeartbeats 4000000 in
theorem pack_yes (A : Option Addr) (c : Nat) (xs : List Int) (w : World) (h1 : Lk w w.heap.size A xs c) (hs : isSetB 300 xs = true) :
    Calls Try.prog 39 #[.slice A xs.length c] w fun e w' => ∃ v, e = .returned (.tuple #[v, .int .i64 0]) ∧ Own w' w.heap.size 5 .u8 v (packL 1 (rangesL xs)) ∧ Below w.heap.size w w' := by
  have hS := (IsS.iff xs).1 hs
  have hch := (rangesL_ok _ xs rfl hS).1
  have hrl : (rangesL xs).length ≤ 300 := Nat.le_trans (rangesL_len _) hS.length_le
  have HCH := Lib.hid hch; clear hch
  have HS := Lib.hid hS; clear hS
  have H1 := Lib.hid h1; clear h1
  have HSS := Lib.hid hs; clear hs
  generalize hrs : rangesL xs = rs at *
  have HRS := Lib.hid hrs; clear hrs
  go_enter Try.func39, Try.ntmps39
  go_wp2_with fail
  refine (ranges_yes A c xs _ H1.out HSS.out).mono ?_
  rintro e w1 ⟨v, rfl, hown, hb1⟩
  rw [HRS.out] at hown
  obtain ⟨A', c', rfl, hc1, hc2⟩ := hown.out
  have HO := Lib.hid hown; clear hown
  have HB1 := Lib.hid hb1; clear hb1
  go_wp2_with fail
  go_loopw [6, 7, 20] (fun v n i wr => ∃ k : Nat, k ≤ rs.length ∧ i = .int .i64 k ∧ n = .int .i64 (nextAt rs k) ∧ Own wr w1.heap.size 5 .u8 v (packL 1 (rs.take k)) ∧ Below w1.heap.size w1 wr) (fun _ _ i _ => rs.length - (intOf i).toNat)
  case atStart => exact ⟨0, by omega, rfl, by simp [nextAt], by simpa [packL] using Own.nil _ _ _ _, Below.refl _ _⟩
  case round =>
    obtain ⟨k, hk, rfl, rfl, hv, hb⟩ := hrel
    by_cases hlt : k < rs.length
    · obtain ⟨g, c'', he, hg1, hg2, _, _, hcells, _⟩ := (HO.out.below hb (Nat.le_refl _)).form (by omega)
      obtain ⟨rfl, rfl⟩ : A' = some ⟨g, 0, none⟩ ∧ c' = c'' := by injection he with e1 e2 e3; exact ⟨e1, e3⟩
      obtain ⟨hca, hcb⟩ := hcells k hlt
      obtain ⟨n1, n2, n3, n4⟩ := chain_at rs HCH.out hlt
      have hpt := pack_take rs hlt
      have hns := nextAt_succ rs hlt
      have hpl : (packL 1 (rs.take k)).length ≤ 1200 := Nat.le_trans (packL_len _ _) (by simp; omega)
      have HV := Lib.hid hv; clear hv
      have HB := Lib.hid hb; clear hb
      have HCE := Lib.hid hcells; clear hcells
      have HE := Lib.hid he; clear he
      have hbs := HB.out.size
      generalize rs.getD k (0, 0) = p at *
      obtain ⟨a, b⟩ := p
      generalize nextAt rs k = nx at *
      simp only at hca hcb n2 n3 n4 hpt hns
      have HPT := Lib.hid hpt; clear hpt
      have HNS := Lib.hid hns; clear hns
      go_wp2_with fail
      refine (appendNumber_any _ _ (a - nx) w1.heap.size _ (HV.out.alloc _) (by simp; omega) (by omega) (by omega) (by omega)).mono ?_
      rintro e x1 ⟨v1, rfl, hv1, hx1, hf1⟩
      have hb9 : Bk x1 wr.heap.size 50 #[.int .i64 a, .int .i64 b] := hf1.out _ _ _ (Bk.new wr _ _) (fun e => by have := (HV.out.block e).2; omega)
      obtain ⟨q1, q2, _, _⟩ := two_cells hb9
      have HV1 := Lib.hid hv1; clear hv1
      have hx1s : wr.heap.size + 1 ≤ x1.heap.size := by have := hx1.size; simpa using this
      have HX1 := Lib.hid (((Below.of_alloc wr _ _ hbs).trans hx1)); clear hx1
      have hl1 := (numL_ok (a - nx) (by omega) (by omega)).2
      go_wp2_with fail
      refine (appendNumber_any _ _ (b - a) w1.heap.size _ HV1.out (by omega) (by simp only [List.length_append]; omega) (by omega) (by omega)).mono ?_
      rintro e x2 ⟨v2, rfl, hv2, hx2, hf2⟩
      have hb9' : Bk x2 wr.heap.size 50 #[.int .i64 a, .int .i64 b] := hf2.out _ _ _ hb9 (HV1.out.ne_block hb9 (by decide))
      clear q1 q2
      obtain ⟨q1, q2, _, _⟩ := two_cells hb9'
      have HV2 := Lib.hid hv2; clear hv2
      have HX2 := Lib.hid hx2; clear hx2
      go_wp2_with fail
      go_roundw
      case rel => exact ⟨k + 1, by omega, by go_num, by rw [HNS.out], HV2.out.of_eq (by rw [HPT.out, List.append_assoc]), (HB.out.trans HX1.out).trans HX2.out⟩
      case measure => simp [intOf]; omega
    · have hkl : k = rs.length := by omega
      have HK := Lib.hid hkl; clear hkl
      have HV := Lib.hid hv; clear hv
      have HB := Lib.hid hb; clear hb
      go_wp2
      go_ret2
      exact ⟨_, rfl, (HV.out.of_eq (by rw [HK.out, List.take_length])).low HB1.out.size, HB1.out.trans (HB.out.mono HB1.out.size)⟩
end Go.Proofs.Ytoldjpnkgdhpkaa
