/- Encode of the reference. -/
import Derived.Test.YtgeikbcfjidgcaaDoorPgEt
import Derived.Test.YtgeikbcfjidgcaaDoorPgA
import Derived.Laws.IdiomStrings
namespace Go.Proofs.YtgeikbcfjidgcaaDoor
open Go.RowKit
set_option linter.unusedVariables false
set_option linter.unusedSimpArgs false

theorem runes_run (s : ByteArray) (hs : s.size ≤ 6144) (W : World) : ∃ ad cap W', (convert 9 63 (.string s)).run Tryd.prog W = .ok (.slice (some ad) (rns s).length cap) W' ∧ Rd W' W'.heap.size .i32 (some ad) (rns s) ∧ Below W.heap.size W W' := by
  have hr : Conv.runesFrom s s.size 0 #[] = ((rns s).map (Value.int .i32)).toArray := by
    rw [runes_eq]; simp [rns]
  have hl := rns_len s
  have h := run_runes_of_string (P := Tryd.prog) W 9 63 21 s Tryd.underlying9 Tryd.underlying63 Tryd.underlying21 (by rw [hr]; simp; omega)
  rw [hr] at h
  have hsz : ((rns s).map (Value.int .i32)).toArray.size = (rns s).length := by simp
  rw [hsz] at h
  refine ⟨⟨W.heap.size, 0, none⟩, _, _, h, ?_, ?_⟩
  · intro hn
    refine ⟨_, rfl, by simp, fun j hj => ?_⟩
    have e : (rns s).getD j 0 = (rns s)[j] := by simp [List.getD, hj]
    have hlt : j < ((rns s).map (Value.int .i32)).toArray.size := by simp; exact hj
    rw [e]
    have hh := heap_alloc_new W.drew (.cells (((rns s).map (Value.int .i32)).toArray ++ Array.replicate (grownCap W (rns s).length 0 21 - (rns s).length) (.int .i32 0)) 21)
    have hz : W.drew.heap.size = W.heap.size := rfl
    rw [hz] at hh
    have ea : (⟨W.heap.size, 0, none⟩ : Addr).add j = ⟨W.heap.size, j, none⟩ := by
      unfold Addr.add; split
      · subst_vars; rfl
      · simp
    rw [ea]
    unfold World.cell?
    rw [hh]
    show (((rns s).map (Value.int .i32)).toArray ++ _)[j]? = _
    rw [Array.getElem?_append_left hlt]
    simp [hj]
  · exact ((Below.refl _ _).drew).alloc (by simp) _

set_option maxHeartbeats 8000000 in
set_option maxRecDepth 40000 in
theorem refEncode_any (s : ByteArray) (p : Int) (w : World) (hu : Lib.Utf8Tabs 1 2 w) (hs : s.size ≤ maxLen) :
    Calls Tryd.prog 19 #[.string s, .int .i64 p] w (SRes w (ecT s p) (ecE s p)) := by
  have HU := Lib.hid hu; clear hu
  have hsm := hs
  unfold maxLen at hs
  have hcon : Hid (Calls Tryd.prog 42 #[.int .i64 6144, .slice (some ⟨w.heap.size, 0, none⟩) 1 1, .int .i64 0, .slice (some ⟨w.heap.size + 1, 0, none⟩) 1 1] ((w.alloc (.cells #[.string s] 9)).alloc (.cells #[.int .i64 p] 3)) fun e w' => e = .returned (.int .i64 (askedN 6144 [s] 0 [p])) ∧ ((w.alloc (.cells #[.string s] 9)).alloc (.cells #[.int .i64 p] 3)) = w') := Lib.hid
    (asked_any 6144 0 [s] [p] ⟨w.heap.size, 0, none⟩ ⟨w.heap.size + 1, 0, none⟩ 1 1 _ (by simp) (by simp) (by simpa using hsm) (fun j hj => by
      have h0 : j = 0 := by simpa using hj
      subst h0
      simp [Addr.add]) (fun j hj => by
      have h0 : j = 0 := by simpa using hj
      subst h0
      simp [Addr.add]))
  clear hsm
  have HB0 := Lib.hid (two_below w (.cells #[.string s] 9) (.cells #[.int .i64 p] 3))
  rcases asked_cases s p with ⟨h1, h2⟩ | ⟨h1, h2, h3⟩ | ⟨h1, h2, h3, h4⟩
  · have E := Lib.hid (ecE_1 (p := p) h1)
    rw [E.out.1, E.out.2]
    rw [h2] at hcon
    clear h1 h2
    go_enter Tryd.func19, Tryd.ntmps19
    go_wp2_with fail
    refine (hcon.out).mono ?_
    rintro e w1 ⟨rfl, rfl⟩
    go_wp2_with fail
    go_ret2
    exact ⟨rfl, HB0.out⟩
  · have E := Lib.hid (ecE_2 (s := s) (p := p) h1 h2)
    rw [E.out.1, E.out.2]
    rw [h3] at hcon
    clear h1 h2 h3
    go_enter Tryd.func19, Tryd.ntmps19
    go_wp2_with fail
    refine (hcon.out).mono ?_
    rintro e w1 ⟨rfl, rfl⟩
    go_wp2_with fail
    go_ret2
    exact ⟨rfl, HB0.out⟩
  obtain ⟨q, rfl⟩ : ∃ q : Nat, p = q := ⟨p.toNat, by omega⟩
  have hq : q < 3 := by omega
  have hsz := h1
  rw [h4] at hcon
  clear h1 h2 h3 h4
  have hV := valid_k s ((w.alloc (.cells #[.string s] 9)).alloc (.cells #[.int .i64 q] 3)) hs (Utf8Tabs_below HU.out HB0.out)
  cases hv : Lib.validD s.data.toList
  · have E := Lib.hid (ecN_bad (q := q) hsz hq hv)
    rw [E.out.1, E.out.2]
    rw [hv] at hV
    have HV := Lib.hid hV; clear hV hv
    go_enter Tryd.func19, Tryd.ntmps19
    go_wp2_with fail
    refine (hcon.out).mono ?_
    rintro e w1 ⟨rfl, rfl⟩
    generalize (w.alloc (.cells #[.string s] 9)).alloc (.cells #[.int .i64 q] 3) = wb at *
    go_wp2_with fail
    refine (HV.out).mono ?_
    rintro e w1 ⟨rfl, hb1⟩
    have HB1 := Lib.hid (HB0.out.trans (hb1.mono HB0.out.size)); clear hb1
    go_wp2_with fail
    go_ret2
    exact ⟨rfl, HB1.out⟩
  · rw [hv] at hV
    have HV := Lib.hid hV; clear hV
    have EF := Lib.hid (fun h => ecN_fit (q := q) hsz hq hv h)
    have EL := Lib.hid (fun h h2 => ecN_large (q := q) hsz hq hv h h2)
    have EO := Lib.hid (fun h h2 => ecN_ok (q := q) hsz hq hv h h2)
    have hll := rns_len s
    have hl : (rns s).length ≤ 6144 := by omega
    have HRR := Lib.hid (runes_run s hsz)
    clear hv hll
    go_enter Tryd.func19, Tryd.ntmps19
    go_wp2_with fail
    refine (hcon.out).mono ?_
    rintro e w1 ⟨rfl, rfl⟩
    generalize (w.alloc (.cells #[.string s] 9)).alloc (.cells #[.int .i64 q] 3) = wb at *
    go_wp2_with fail
    refine (HV.out).mono ?_
    rintro e w1 ⟨rfl, hb1⟩
    have HB1 := Lib.hid (HB0.out.trans (hb1.mono HB0.out.size)); clear hb1
    obtain ⟨ad, cap, w2, hcv, hrd, hb2⟩ := HRR.out w1
    have HRD := Lib.hid hrd
    have HB2 := Lib.hid (HB1.out.trans (hb2.mono HB1.out.size)); clear hb2 hrd
    go_wp2_with fail
    clear hcv
    go_loopw [7, 9] (fun o i wr => ∃ k : Nat, k ≤ (rns s).length ∧ i = .int .i64 k ∧ Own wr w2.heap.size 5 .u8 o (encB q ((rns s).take k)) ∧ Below w2.heap.size w2 wr ∧ encV q ((rns s).take k) = true) (fun _ i _ => (rns s).length - (intOf i).toNat)
    case atStart => exact ⟨0, by omega, rfl, by simpa [encB] using Own.nil _ _ _ _, Below.refl _ _, rfl⟩
    case round =>
      obtain ⟨k, hk, rfl, hown, hbel, hev⟩ := hrel
      obtain ⟨A, cp, rfl⟩ := len_own hown
      by_cases hlt : k < (rns s).length
      · have HO := Lib.hid hown
        have HB := Lib.hid hbel
        have hrd : Rd wr w2.heap.size .i32 (some ad) (rns s) := HRD.out.below hbel
        obtain ⟨_, rfl', _, hcell⟩ := hrd (by omega)
        obtain rfl := Option.some.inj rfl'
        have hck := hcell k hlt
        have hran := rns_range s hlt
        have htk := takeI hlt
        have hspl := splitI hlt
        have hno := fun h => encV_no q ((rns s).take k) ((rns s).drop (k + 1)) ((rns s).getD k 0) h
        rw [← hspl] at hno
        have HNO := Lib.hid hno; clear hno hspl
        have hev2 := encV_snoc q ((rns s).take k) ((rns s).getD k 0)
        rw [hev, ← htk] at hev2
        have HE2 := Lib.hid hev2; clear hev2
        have hs2 := encB_snoc q ((rns s).take k) ((rns s).getD k 0)
        rw [← htk] at hs2
        have HS2 := Lib.hid hs2; clear hs2 htk
        have hlen : (encB q ((rns s).take k)).length ≤ 1000000 := by
          rw [encB_len, List.length_take]; omega
        have HLE := Lib.hid hlen; clear hlen
        clear hown hbel hev hrd hcell
        generalize (rns s).getD k 0 = r at *
        obtain ⟨hr1, hr2⟩ := hran
        have hbo := Lib.hid (fun W => refByteOf_any r q hq W)
        cases hco : byI q r with
        | none =>
          rw [hco] at hbo HNO
          have E := Lib.hid (EF.out (HNO.out rfl))
          clear HE2 HS2 hco HNO
          go_wp2_with fail
          refine (hbo.out _).mono ?_
          rintro e w4 ⟨rfl, rfl⟩
          simp only [Option.getD_none, Option.isSome_none]
          have HB4 := Lib.hid (HB2.out.trans (HB.out.mono HB2.out.size))
          go_wp2_with fail
          (try rw [Exit.noGoto_ret])
          go_ret2
          exact ⟨by rw [E.out.1, E.out.2]; rfl, HB4.out⟩
        | some x =>
          rw [hco] at hbo HE2 HS2
          clear HNO hco
          go_wp2_with fail
          refine (hbo.out _).mono ?_
          rintro e w4 ⟨rfl, rfl⟩
          simp only [Option.getD_some, Option.isSome_some]
          go_wp2_with (at_builtin; refine app_byte rfl _ _ rfl w2.heap.size _ _ x rfl (HO.out.alloc _) ⟨wr.heap.size, 0, none⟩ 1 rfl (new_cell _ _ _) HLE.out (size_alloc HB.out.size _) ?_; intro v5 w5 ho5 hb5 _; have HO5 := Lib.hid ho5; have HB5 := Lib.hid ((HB.out.alloc HB.out.size _).trans hb5); clear ho5 hb5)
          go_roundw
          case rel => exact ⟨k + 1, by omega, by go_num, HO5.out.of_eq (by rw [HS2.out]; rfl), HB5.out, by rw [HE2.out]; rfl⟩
          case measure => simp [intOf]; omega
      · have hkl : k = (rns s).length := by omega
        subst hkl
        rw [List.take_length] at hown hev ⊢
        have hcv := conv_own hown
        rw [encB_len] at *
        have HB4 := Lib.hid (HB2.out.trans (hbel.mono HB2.out.size))
        by_cases hl2 : 2048 < (rns s).length
        · have E := Lib.hid (EL.out hev hl2)
          have hl' : (2048 : Int) < ((rns s).length : Int) := by omega
          have gk : ¬ ((rns s).length : Int) < ((rns s).length : Int) := by omega
          clear hown hbel hev hcv hl2 hlt
          go_wp2_with fail
          go_ret2
          exact ⟨by rw [E.out.1, E.out.2]; rfl, HB4.out⟩
        · have E := Lib.hid (EO.out hev hl2)
          have hl' : ¬ (2048 : Int) < ((rns s).length : Int) := by omega
          have gk : ¬ ((rns s).length : Int) < ((rns s).length : Int) := by omega
          clear hown hbel hev hl2 hlt
          go_wp2_with fail
          go_ret2
          exact ⟨by rw [E.out.1, E.out.2]; rfl, HB4.out⟩
end Go.Proofs.YtgeikbcfjidgcaaDoor
