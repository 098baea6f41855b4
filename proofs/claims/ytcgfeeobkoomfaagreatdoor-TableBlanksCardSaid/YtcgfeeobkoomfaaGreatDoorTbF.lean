/- Texts in fields: fitText. -/
import Derived.Test.YtcgfeeobkoomfaaGreatDoorTbE
import Derived.Test.YtcgfeeobkoomfaaGreatDoorShelf
namespace Go.Proofs.YtcgfeeobkoomfaaGreatDoor
open Go.RowKit
set_option linter.unusedVariables false
set_option linter.unusedSimpArgs false
set_option maxRecDepth 40000

/-- What a text becomes in a field of m bytes. -/
def cutT (s : ByteArray) (m : Nat) : ByteArray := trimR (s.extract 0 (min s.size m))
theorem trimR_le (s : ByteArray) : (trimR s).size ≤ s.size := by
  show (Lib.trimRightB s.data.toList 32).toArray.size ≤ s.data.toList.length
  unfold Lib.trimRightB
  simp only [List.size_toArray, List.length_reverse]
  have h : (List.dropWhile (fun x => x == 32) s.data.toList.reverse).length ≤ s.data.toList.reverse.length := (List.dropWhile_sublist _).length_le
  simpa using h
theorem cutT_le (s : ByteArray) (m : Nat) : (cutT s m).size ≤ m ∧ (cutT s m).size ≤ s.size := by
  have h := trimR_le (s.extract 0 (min s.size m))
  unfold cutT
  simp at h ⊢
  omega
theorem drop_idem (l : List UInt8) : List.dropWhile (· == 32) (List.dropWhile (· == 32) l) = List.dropWhile (· == (32 : UInt8)) l := by
  induction l with
  | nil => rfl
  | cons a l ih =>
    by_cases h : a = 32
    · subst h; rw [List.dropWhile_cons_of_pos (by simp)]; exact ih
    · rw [List.dropWhile_cons_of_neg (by simpa using h), List.dropWhile_cons_of_neg (by simpa using h)]
theorem trimR_idem (s : ByteArray) : trimR (trimR s) = trimR s := by
  unfold trimR Lib.trimRightB
  apply ByteArray.ext
  simp only [List.reverse_reverse]
  rw [drop_idem]
theorem cutT_idem (s : ByteArray) (m : Nat) : cutT (cutT s m) m = cutT s m := by
  have h := cutT_le s m
  have e : (cutT s m).extract 0 (min (cutT s m).size m) = cutT s m := by
    rw [Nat.min_eq_left h.1]
    apply ByteArray.ext; simp
  unfold cutT at e ⊢
  rw [e, trimR_idem]
theorem wrong_none (p : Nat) (hp : p < 3) (t : ByteArray) (ht : t.size ≤ 2048) : wrongN p 0 [t] = 0 := by
  unfold wrongN
  have h1 : ([t].any fun s => decide (2048 < s.size)) = false := by simp; omega
  rw [h1]
  simp; omega
theorem valid_is (p : Nat) (hp : p < 3) (t : ByteArray) (ht : t.size ≤ 2048) : vldB t p = vld p t.data.toList := by
  unfold vldB
  rw [wrong_none p hp t ht]; simp
def TxR (t : ByteArray) (ok : Bool) (w : World) (e : Ending) (w' : World) : Prop := e = .returned (.tuple #[if ok then vv 4 0 t else vv 0 0 nos, .int .i64 (if ok then 0 else 10)]) ∧ Below w.heap.size w w'

set_option maxHeartbeats 4000000 in
theorem fitText_any (nm : ByteArray) (fk : Int) (m : Nat) (nu : Bool) (q : Nat) (k n : Int) (s : ByteArray) (w : World) (hq : q < 3) (hm : m ≤ 254) (hs : s.size ≤ maxLen) (hw : Lds w) :
    Calls Tryz.prog 71 #[fv nm fk m nu, .int .i64 q, vv k n s] w (TxR (cutT s m) (vld q (cutT s m).data.toList) w) := by
  unfold maxLen at hs
  have hle := cutT_le s m
  have hvb := valid_is q hq (cutT s m) (by omega)
  have hwn := wrong_none q hq (cutT s m) (by omega)
  have CV := Lib.hid (fun W (h5 : 1 < W.heap.size) hsp => Valid_any (cutT s m) q W h5 hsp (by unfold maxLen; omega))
  unfold KRes at CV
  rw [hvb, hwn] at CV
  have CT := Lib.hid (fun W => Tryz.strings_TrimRight_one (s.extract 0 (min s.size m)) 32 (by decide) W (by simp; omega))
  rw [show (⟨(Lib.trimRightB (s.extract 0 (min s.size m)).data.toList 32).toArray⟩ : ByteArray) = cutT s m from rfl] at CT
  have hF := FB.new w nm fk m nu k n s
  have HB := Lib.hid (three_below w (.cells #[.string nm, .int .i64 fk, .int .i64 m, .bool nu] 49) (.cells #[.int .i64 k, .int .i64 n, .string s] 51) (.cells #[.int .i64 0, .int .i64 0, .string nos] 51))
  have hL := hw.below ((three_below w (.cells #[.string nm, .int .i64 fk, .int .i64 m, .bool nu] 49) (.cells #[.int .i64 k, .int .i64 n, .string s] 51) (.cells #[.int .i64 0, .int .i64 0, .string nos] 51)))
  have HL := Lib.hid hL
  obtain ⟨f0, f1, f2, f3, v0, v1, v2, r0, r1, r2, q0, q1, q2, z1, z2, z3⟩ := hF
  have hF := FB.new w nm fk m nu k n s
  have hbig := hw.big
  clear hvb hwn hL hw
  rcases Nat.lt_or_ge s.size m with hlt | hge
  · have hmin : min s.size m = s.size := by omega
    rw [hmin, show s.extract 0 s.size = s from by apply ByteArray.ext; simp] at CT
    have d1 : (s.size : Int) < m := by omega
    have hmi : min (s.size : Int) m = s.size := by omega
    clear hmin
    generalize cutT s m = t at *
    cases hvd : vld q t.data.toList
    all_goals
      rw [hvd] at CV
      clear hvd
      go_enter Tryz.func71, Tryz.ntmps71
      go_wp2_with fail
      refine (CT.out _).mono ?_
      rintro e w' ⟨rfl, rfl⟩
      go_wp2_with fail
      refine (CV.out _ (by simp) HL.out.sp).mono ?_
      rintro e w1 ⟨rfl, hb1⟩
      have hF1 := hF.below hb1 hF.z3
      have HB1 := Lib.hid (HB.out.trans (hb1.mono (by have := HB.out.size; omega)))
      clear hF HB hb1 f0 f1 f2 f3 v0 v1 v2 r0 r1 r2 q0 q1 q2 z1 z2 z3
      obtain ⟨f0, f1, f2, f3, v0, v1, v2, r0, r1, r2, q0, q1, q2, z1, z2, z3⟩ := hF1
      go_wp2_with fail
    · exact bodyPost_ret (v := .tuple #[vv 0 0 nos, .int .i64 10]) (by simp [results, Tryz.results71, go_sem, r0, r1, r2, z1, z2, z3]) rfl ⟨rfl, ((HB1.out.setCell (by simp; omega) _).setCell (by simp; omega) _).setCell (by simp; omega) _⟩
    · exact bodyPost_ret (v := .tuple #[vv 4 0 t, .int .i64 0]) (by simp [results, Tryz.results71, go_sem, r0, r1, r2, z1, z2, z3]) rfl ⟨rfl, ((HB1.out.setCell (by simp; omega) _).setCell (by simp; omega) _).setCell (by simp; omega) _⟩
  · have hmin : min s.size m = m := by omega
    rw [hmin] at CT
    have d1 : (m : Int) ≤ s.size := by omega
    have hmi : min (s.size : Int) m = m := by omega
    clear hmin
    generalize cutT s m = t at *
    cases hvd : vld q t.data.toList
    all_goals
      rw [hvd] at CV
      clear hvd
      go_enter Tryz.func71, Tryz.ntmps71
      go_wp2_with fail
      refine (CT.out _).mono ?_
      rintro e w' ⟨rfl, rfl⟩
      go_wp2_with fail
      refine (CV.out _ (by simp) HL.out.sp).mono ?_
      rintro e w1 ⟨rfl, hb1⟩
      have hF1 := hF.below hb1 hF.z3
      have HB1 := Lib.hid (HB.out.trans (hb1.mono (by have := HB.out.size; omega)))
      clear hF HB hb1 f0 f1 f2 f3 v0 v1 v2 r0 r1 r2 q0 q1 q2 z1 z2 z3
      obtain ⟨f0, f1, f2, f3, v0, v1, v2, r0, r1, r2, q0, q1, q2, z1, z2, z3⟩ := hF1
      go_wp2_with fail
    · exact bodyPost_ret (v := .tuple #[vv 0 0 nos, .int .i64 10]) (by simp [results, Tryz.results71, go_sem, r0, r1, r2, z1, z2, z3]) rfl ⟨rfl, ((HB1.out.setCell (by simp; omega) _).setCell (by simp; omega) _).setCell (by simp; omega) _⟩
    · exact bodyPost_ret (v := .tuple #[vv 4 0 t, .int .i64 0]) (by simp [results, Tryz.results71, go_sem, r0, r1, r2, z1, z2, z3]) rfl ⟨rfl, ((HB1.out.setCell (by simp; omega) _).setCell (by simp; omega) _).setCell (by simp; omega) _⟩
end Go.Proofs.YtcgfeeobkoomfaaGreatDoor
