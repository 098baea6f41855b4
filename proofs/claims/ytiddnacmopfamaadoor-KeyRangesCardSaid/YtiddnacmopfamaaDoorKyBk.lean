/- The value of a key; the walk of KeyBack. -/
import Derived.Test.YtiddnacmopfamaaDoorKyDc
import Derived.Test.YtiddnacmopfamaaDoorKvAll
namespace Go.Proofs.YtiddnacmopfamaaDoor
open Go.RowKit
set_option linter.unusedVariables false
set_option linter.unusedSimpArgs false
set_option maxRecDepth 40000

theorem turn_turn (d : Bool) (s : ByteArray) : turnS d (turnS d s) = s := by
  unfold turnS
  apply ByteArray.ext
  apply Array.toList_inj.1
  simp only [mapS, List.map_map]
  have e : (mapB (turnN d) ∘ mapB (turnN d)) = id := by
    funext u
    have h := u.toNat_lt
    apply UInt8.toNat_inj.1
    cases d
    · simp [mapB, turnN]
    · simp only [Function.comp, mapB, turnN, if_pos, id]
      have e1 : (UInt8.ofNat (255 - u.toNat)).toNat = 255 - u.toNat := by simp; omega
      rw [e1]
      simp
      omega
  rw [e]; simp
theorem SN_list {l : List Nat} (h : ∀ x ∈ l, x < 256) : (SN l).data.toList = dg l := by
  rw [← dg_nums h, BA_data]
theorem dec_enc {k n : Int} {s : ByteArray} {p : Nat} (hv : vE k n s = 0) (hs : s.size ≤ 48) : decO (encS k n s p 0).data.toList = some (k, n, s, (encS k n s p 0).size) := by
  by_cases hk : k = 4
  · subst hk
    have hn : n = 0 := by
      unfold vE at hv
      split at hv
      · omega
      · split at hv
        · rename_i h; unfold isV at h; rw [if_pos rfl] at h; simpa using h
        · omega
    subst hn
    unfold encS
    rw [if_pos rfl, BA_data, wei0 p s hs]
    unfold decO
    rw [if_neg (by simp), if_pos (by rfl)]
    have hd : decT (esc s.data.toList ++ [0, 0]) = some (s.data.toList, (esc s.data.toList).length + 2) := decT_esc s.data.toList []
    unfold txO
    rw [compT_nil]
    show (match (decT (esc s.data.toList ++ [0, 0])).map fun x => (x.1, 1 + x.2) with | some x => if x.1.length ≤ 48 then some ((4 : Int), (0 : Int), BA x.1, x.2) else none | none => none) = _
    rw [hd]
    show (if s.data.toList.length ≤ 48 then some ((4 : Int), (0 : Int), BA s.data.toList, 1 + ((esc s.data.toList).length + 2)) else none) = _
    rw [if_pos (by exact hs), BA_size]
    simp [BA_self]
    omega
  · obtain ⟨v1, v2, v3, v4, v5, rfl⟩ := valid_num hv hk
    obtain ⟨q, rfl⟩ : ∃ q : Nat, k = q := ⟨k.toNat, by omega⟩
    have hlt : ∀ x ∈ numL q n, x < 256 := by
      intro x hx
      unfold numL at hx
      rcases List.mem_cons.1 hx with rfl | hx
      · omega
      · exact digs_lt _ _ x hx
    have hsz : (SN (numL q n)).size = 1 + nbS q := by rw [SN_size]; unfold numL; rw [List.length_cons, digs_len]; omega
    unfold encS
    rw [if_neg hk, Int.toNat_natCast, SN_list hlt, hsz]
    obtain ⟨x, hx⟩ : ∃ x : Nat, n + nbA q = x := ⟨(n + nbA q).toNat, by omega⟩
    have hxt : (n + nbA q).toNat = x := by omega
    have hx256 : x < 256 ^ nbS q := by
      have h5 := v5
      rw [hx] at h5
      exact_mod_cast h5
    have hdl : dg (numL q n) = UInt8.ofNat q :: (digs (nbS q) x).map UInt8.ofNat := by unfold dg numL; rw [hxt]; rfl
    have hq : (UInt8.ofNat q).toNat = q := by simp; omega
    rw [hdl]
    unfold decO
    rw [if_neg (by simp)]
    show (if (UInt8.ofNat q).toNat = 4 then _ else numO (UInt8.ofNat q).toNat ((digs (nbS q) x).map UInt8.ofNat)) = _
    rw [hq, if_neg (by omega)]
    unfold numO
    have hlen : ((digs (nbS q) x).map UInt8.ofNat).length = nbS q := by rw [List.length_map, digs_len]
    rw [if_neg (by omega), List.take_of_length_le (by omega), numV_dg _ _ hx256]
    have hn : (x : Int) - nbA q = n := by omega
    rw [hn, if_pos ⟨by omega, hv⟩]

theorem wv_page (k n : Int) (s : ByteArray) (m : Int) : wvE k n s (pgN m) 0 = vE k n s := by
  unfold wvE
  by_cases h : vE k n s = 0
  · rw [if_pos h, h]
    obtain ⟨g1, g2⟩ := pg_lt m
    unfold wpE
    rw [if_pos (by omega)]
  · rw [if_neg h]
theorem box_v (w : World) (k n : Int) (s : ByteArray) :
    let wb := (w.alloc (.cells #[.int .i64 k, .int .i64 n, .string s] 23)).alloc (.cells #[.int .i64 k, .int .i64 n, .string s] 23)
    VCell wb w.heap.size k n s ∧ VCell wb (w.heap.size + 1) k n s ∧ Below w.heap.size w wb := by
  intro wb
  have hz1 : (w.alloc (.cells #[.int .i64 k, .int .i64 n, .string s] 23)).heap.size = w.heap.size + 1 := by simp
  have h1 := VCell.new w k n s 23
  have h3 := VCell.new (w.alloc (.cells #[.int .i64 k, .int .i64 n, .string s] 23)) k n s 23
  have b2 := Below.of_alloc (w.alloc (.cells #[.int .i64 k, .int .i64 n, .string s] 23)) (.cells #[.int .i64 k, .int .i64 n, .string s] 23) _ (Nat.le_refl _)
  have h1' := h1.below b2 h1.2.2.2
  rw [hz1] at h3
  exact ⟨h1', h3, ((Below.refl _ _).alloc (Nat.le_refl _) _).alloc (by simp) _⟩

set_option maxHeartbeats 8000000 in
theorem keyBack_any (k n : Int) (s : ByteArray) (m : Int) (d : Bool) (w : World) (he : Env w) (hs : s.size ≤ 140737488355328) :
    Calls Tryd.prog 5 #[vv k n s, .int .i64 m, .bool d] w fun e w' => e = .returned (.bool true) ∧ Below w.heap.size w w' := by
  have hbox := box_v w k n s
  simp only at hbox
  have HE := Lib.hid (he.below hbox.2.2 (Nat.le_refl _)); clear he
  have HBX := Lib.hid hbox; clear hbox
  have C0 := Lib.hid (fun W h => known_any W h)
  go_enter Tryd.func5, Tryd.ntmps5
  go_wp2_with fail
  generalize (w.alloc (.cells #[.int .i64 k, .int .i64 n, .string s] 23)).alloc (.cells #[.int .i64 k, .int .i64 n, .string s] 23) = wb at *
  refine (over_one k n s _ _ hs HBX.out.2.1).mono ?_
  rintro e w1 ⟨rfl, rfl⟩
  cases ho : ovB [s]
  · have hz := ovB_one ho
    clear ho
    have hP := Lib.hid (fun W => page_any m W)
    have C1 := Lib.hid (fun W h => Encode_any k n s (pgN m) 0 d W h (by omega))
    have CV := Lib.hid (fun W => refValidate_any k n s W (by unfold maxLen; omega))
    have e1 := wv_page k n s m
    rw [e1] at C1
    obtain ⟨g1, g2⟩ := pg_lt m
    by_cases hv : vE k n s = 0
    · have e2 : keyT k n s (pgN m) 0 d = turnS d (encS k n s (pgN m) 0) := by unfold keyT; rw [e1, if_pos hv]; rfl
      rw [hv] at C1 CV
      rw [e2] at C1
      have hz2 : (turnS d (encS k n s (pgN m) 0)).size ≤ 200 := by rw [turnS_size]; exact enc_size _ _
      have CD := Lib.hid (fun W => Decode_any (turnS d (encS k n s (pgN m) 0)) d W (by omega))
      rw [turn_turn] at CD
      have HDE : Hid (s.size ≤ 48 → dcE (encS k n s (pgN m) 0).data.toList (decO (encS k n s (pgN m) 0).data.toList) = 0 ∧ dcV (encS k n s (pgN m) 0).data.toList (decO (encS k n s (pgN m) 0).data.toList) = (k, n, s)) := Lib.hid (fun h => by
        rw [dec_enc hv h]
        unfold dcE dcV
        simp only
        have hq : (encS k n s (pgN m) 0).size = (encS k n s (pgN m) 0).data.toList.length := rfl
        rw [if_pos hq, if_pos hq]
        exact ⟨rfl, rfl⟩)
      generalize turnS d (encS k n s (pgN m) 0) = t at *
      generalize encS k n s (pgN m) 0 = x at *
      generalize pgN m = p at *
      generalize clN m = c at *
      clear hv e1 e2 g1 g2 hz2
      obtain ⟨v0, v1, v2, hvs⟩ := HBX.out.1
      go_wp2_with fail
      refine (hP.out _).mono ?_
      rintro e w0 ⟨rfl, rfl⟩
      go_wp2_with fail
      refine (C1.out _ HE.out).mono ?_
      rintro e w2 ⟨rfl, hb2⟩
      have HE2 := Lib.hid (HE.out.below hb2 (Nat.le_refl _))
      have HB2 := Lib.hid (HBX.out.2.2.trans (hb2.mono HBX.out.2.2.size))
      have HV2 := Lib.hid (HBX.out.1.below hb2 HBX.out.1.2.2.2)
      clear hb2 v0 v1 v2 hvs
      obtain ⟨v0, v1, v2, hvs⟩ := HV2.out
      by_cases h48 : s.size ≤ 48
      · have i1 : ¬ (48 : Int) < s.size := by omega
        have hd := HDE.out h48
        rw [hd.1, hd.2] at CD
        clear hd h48
        go_wp2_with fail
        refine (CD.out _).mono ?_
        rintro e w3 ⟨rfl, hb3⟩
        have HE3 := Lib.hid (HE2.out.below hb3 (Nat.le_refl _))
        have HB3 := Lib.hid (HB2.out.trans (hb3.mono HB2.out.size))
        have HV3 := Lib.hid (HV2.out.below hb3 HV2.out.2.2.2)
        clear hb3 v0 v1 v2 hvs
        obtain ⟨v0, v1, v2, hvs⟩ := HV3.out
        have HE4 := Lib.hid (HE3.out.below (Below.of_alloc w3 (.cells #[.int .i64 k, .int .i64 n, .string s] 23) _ (Nat.le_refl _)) (Nat.le_refl _))
        have HB4 := Lib.hid (HB3.out.alloc HB3.out.size (.cells #[.int .i64 k, .int .i64 n, .string s] 23))
        go_wp2_with fail
        refine (Same_self k n s _).mono ?_
        rintro e w4 ⟨rfl, hb4⟩
        have HE5 := Lib.hid (HE4.out.below hb4 (Nat.le_refl _))
        have HB5 := Lib.hid (HB4.out.trans (hb4.mono HB4.out.size)); clear hb4
        go_wp2_with fail
        refine (C0.out _ HE5.out).mono ?_
        rintro e w5 ⟨rfl, hb5⟩
        have HB6 := Lib.hid (HB5.out.trans (hb5.mono HB5.out.size)); clear hb5
        go_wp2_with fail
        go_ret
        exact ⟨rfl, HB6.out⟩
      · have i1 : (48 : Int) < s.size := by omega
        clear h48
        go_wp2_with fail
        refine (CV.out _).mono ?_
        rintro e w3 ⟨rfl, hb3⟩
        have HE3 := Lib.hid (HE2.out.below hb3 (Nat.le_refl _))
        have HB3 := Lib.hid (HB2.out.trans (hb3.mono HB2.out.size)); clear hb3
        go_wp2_with fail
        refine (C0.out _ HE3.out).mono ?_
        rintro e w4 ⟨rfl, hb4⟩
        have HB4 := Lib.hid (HB3.out.trans (hb4.mono HB3.out.size)); clear hb4
        go_wp2_with fail
        go_ret
        exact ⟨rfl, HB4.out⟩
    · have hv' : (vE k n s != 0) = true := by simpa using hv
      generalize keyT k n s (pgN m) 0 d = t at *
      generalize vE k n s = r at *
      generalize pgN m = p at *
      generalize clN m = c at *
      clear hv e1 g1 g2
      obtain ⟨v0, v1, v2, hvs⟩ := HBX.out.1
      go_wp2_with fail
      refine (hP.out _).mono ?_
      rintro e w0 ⟨rfl, rfl⟩
      go_wp2_with fail
      refine (C1.out _ HE.out).mono ?_
      rintro e w2 ⟨rfl, hb2⟩
      have HE2 := Lib.hid (HE.out.below hb2 (Nat.le_refl _))
      have HB2 := Lib.hid (HBX.out.2.2.trans (hb2.mono HBX.out.2.2.size))
      have HV2 := Lib.hid (HBX.out.1.below hb2 HBX.out.1.2.2.2)
      clear hb2 v0 v1 v2 hvs
      obtain ⟨v0, v1, v2, hvs⟩ := HV2.out
      go_wp2_with fail
      refine (CV.out _).mono ?_
      rintro e w3 ⟨rfl, hb3⟩
      have HE3 := Lib.hid (HE2.out.below hb3 (Nat.le_refl _))
      have HB3 := Lib.hid (HB2.out.trans (hb3.mono HB2.out.size)); clear hb3
      go_wp2_with fail
      refine (C0.out _ HE3.out).mono ?_
      rintro e w4 ⟨rfl, hb4⟩
      have HB4 := Lib.hid (HB3.out.trans (hb4.mono HB3.out.size)); clear hb4
      go_wp2_with fail
      go_ret
      exact ⟨rfl, HB4.out⟩
  · clear ho
    go_wp2_with fail
    refine (C0.out _ HE.out).mono ?_
    rintro e w4 ⟨rfl, hb4⟩
    have HB4 := Lib.hid (HBX.out.2.2.trans (hb4.mono HBX.out.2.2.size)); clear hb4
    go_wp2_with fail
    go_ret
    exact ⟨rfl, HB4.out⟩
theorem keyBack_all (k n : Int) (s : ByteArray) (m : Int) (d : Bool) (w : World) (he : Env w) (hk : -9223372036854775808 ≤ k ∧ k ≤ 9223372036854775807) (hn : -9223372036854775808 ≤ n ∧ n ≤ 9223372036854775807) (hs : s.size ≤ 140737488355328) (hm : -9223372036854775808 ≤ m ∧ m ≤ 9223372036854775807) :
    Calls Tryd.prog 5 #[vv k n s, .int .i64 m, .bool d] w fun e w' => e = .returned (.bool true) ∧ Below w.heap.size w w' := keyBack_any k n s m d w he hs
end Go.Proofs.YtiddnacmopfamaaDoor
