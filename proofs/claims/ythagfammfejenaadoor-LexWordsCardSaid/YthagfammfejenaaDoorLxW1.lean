/- Words in capitals: the program and the reference. -/
import Derived.Test.YthagfammfejenaaDoorLxA
import Derived.Laws.IdiomStrings
import Derived.WalkSpells
import Derived.Lib.Bytes
namespace Go.Proofs.YthagfammfejenaaDoor
open Go.RowKit
set_option linter.unusedVariables false
set_option linter.unusedSimpArgs false
set_option maxRecDepth 40000
def nos : ByteArray := ⟨#[]⟩
/-- A row of bytes of the call's own that may be written. -/
def BRow (w : World) (g : Nat) (bs : List UInt8) : Prop := g < w.heap.size ∧ ∀ j, j < bs.length → w.cell? ⟨g, j, none⟩ = some (.int .u8 ((bs.getD j 0).toNat : Int)) ∧ w.frozen? ⟨g, j, none⟩ = false
theorem BRow.below {w w' : World} {g B : Nat} {bs : List UInt8} (h : BRow w g bs) (hb : Below B w w') (hg : g < B) : BRow w' g bs :=
  ⟨by have := h.1; have := hb.size; omega, fun j hj => ⟨by rw [hb.cell (p := ⟨g, j, none⟩) hg]; exact (h.2 j hj).1, by rw [hb.frozen (p := ⟨g, j, none⟩) hg]; exact (h.2 j hj).2⟩⟩
theorem BRow.set {w : World} {g k : Nat} {bs : List UInt8} {z : UInt8} {v : Int} (h : BRow w g bs) (hk : k < bs.length) (hv : v = (z.toNat : Int)) : BRow (w.setCell ⟨g, k, none⟩ (.int .u8 v)) g (bs.set k z) := by
  subst hv
  refine ⟨by have := h.1; simpa using this, fun j hj => ⟨?_, ?_⟩⟩
  · rw [List.length_set] at hj
    by_cases e : j = k
    · subst e
      rw [World.cell?_setCell_same _ _ _ (h.2 j hj).1]
      simp [List.getD, hj]
    · rw [World.cell?_setCell_other _ _ _ _ (fun x => e (by injection x with _ x _; exact x.symm)), (h.2 j hj).1]
      simp [List.getD, List.getElem?_set, Ne.symm e]
  · rw [World.frozen?_setCell]
    exact (h.2 j (by simpa using hj)).2
theorem BRow.new (w : World) (s : ByteArray) (cap : Nat) : BRow (w.alloc (.cells (bytesRow s cap) 5 ((bytesRow s cap).size, (bytesRow s cap).size + 1))) w.heap.size s.data.toList := by
  refine ⟨by simp, fun j hj => ⟨?_, ?_⟩⟩
  · have hj' : j < s.data.size := by simpa using hj
    rw [World.cell?_alloc_mark, bytesRow_at s cap j hj']
    have e : s.data.toList.getD j 0 = s.data[j] := by simp [List.getD, Array.getElem?_eq_getElem hj']
    rw [e]
  · rw [World.frozen?_alloc_mark]
    have : j < (bytesRow s cap).size := by
      have hj' : j < s.data.size := by simpa using hj
      unfold bytesRow
      rw [Array.size_append, Array.size_map]
      omega
    simp; omega
theorem BRow.text {w : World} {g : Nat} {bs : List UInt8} (h : BRow w g bs) (cap : Nat) : (convert 76 9 (.slice (some ⟨g, 0, none⟩) bs.length cap)).run Tryd.prog w = .ok (.string ⟨bs.toArray⟩) w :=
  run_convert_bytes_back w 76 9 5 ⟨g, 0, none⟩ cap bs Tryd.underlying76 Tryd.underlying5 Tryd.underlying9 fun j hj => by
    have := (h.2 j hj).1
    rw [show (⟨g, 0, none⟩ : Addr).add j = ⟨g, j, none⟩ by unfold Addr.add; split <;> simp_all, this]
    simp [List.getD, hj]
def mapB (f : Nat → Nat) (b : UInt8) : UInt8 := UInt8.ofNat (f b.toNat)
def mapS (f : Nat → Nat) (s : ByteArray) : ByteArray := ⟨(s.data.toList.map (mapB f)).toArray⟩
theorem part_set (f : Nat → Nat) (l : List UInt8) {k : Nat} (hk : k < l.length) : ((l.take k).map (mapB f) ++ l.drop k).set k (mapB f (l.getD k 0)) = (l.take (k + 1)).map (mapB f) ++ l.drop (k + 1) := by
  have h1 : ((l.take k).map (mapB f)).length = k := by simp; omega
  rw [List.set_append_right _ _ (by omega), h1, Nat.sub_self, List.drop_eq_getElem_cons hk, List.set_cons_zero, List.take_succ_eq_append_getElem hk, List.map_append, List.append_assoc]
  have e : l.getD k 0 = l[k] := by simp [List.getD, hk]
  rw [e]; rfl
theorem part_at (f : Nat → Nat) (l : List UInt8) {k : Nat} (hk : k < l.length) : ((l.take k).map (mapB f) ++ l.drop k).getD k 0 = l.getD k 0 := by
  have h1 : ((l.take k).map (mapB f)).length = k := by simp; omega
  rw [List.getD_eq_getElem?_getD, List.getElem?_append_right (by omega), h1, Nat.sub_self]
  simp [List.getD, hk]
theorem part_len (f : Nat → Nat) (l : List UInt8) (k : Nat) (hk : k ≤ l.length) : ((l.take k).map (mapB f) ++ l.drop k).length = l.length := by simp; omega
theorem part_same (f : Nat → Nat) (l : List UInt8) {k : Nat} (hk : k < l.length) (h : mapB f (l.getD k 0) = l.getD k 0) : (l.take k).map (mapB f) ++ l.drop k = (l.take (k + 1)).map (mapB f) ++ l.drop (k + 1) := by
  have h1 := part_set f l hk
  rw [h] at h1
  rw [← h1]
  have hl : k < ((l.take k).map (mapB f) ++ l.drop k).length := by rw [part_len f l k (by omega)]; exact hk
  have h2 := part_at f l hk
  have e : ((l.take k).map (mapB f) ++ l.drop k).getD k 0 = ((l.take k).map (mapB f) ++ l.drop k)[k] := by simp only [List.getD, List.getElem?_eq_getElem hl]; rfl
  rw [e] at h2
  rw [← h2, List.set_getElem_self]
theorem byte_lt (b : UInt8) : b.toNat < 256 := b.toNat_lt
/-- A small letter as a capital. -/
def capB (b : Nat) : Nat := if 97 ≤ b ∧ b ≤ 122 then b - 32 else b
abbrev capS (s : ByteArray) : ByteArray := mapS capB s

set_option maxHeartbeats 1000000 in
theorem capital_any (b : Nat) (hb : b < 256) (w : World) : Calls Tryd.prog 65 #[.int .u8 b] w fun e w' => e = .returned (.int .u8 (capB b)) ∧ w = w' := by
  by_cases h1 : 97 ≤ b
  · by_cases h2 : b ≤ 122
    · have e : (capB b : Int) = (b : Int) - 32 := by unfold capB; rw [if_pos ⟨h1, h2⟩]; omega
      rw [e]; clear e
      have t1 : decide (97 ≤ (b : Int)) = true := by simp; omega
      have t2 : decide ((b : Int) ≤ 122) = true := by simp; omega
      have i0 : (0 : Int) ≤ (b : Int) - 32 := by omega
      have i1 : (b : Int) - 32 ≤ 255 := by omega
      go_enter Tryd.func65, Tryd.ntmps65
      go_wp2_with fail
      go_ret
      exact ⟨rfl, rfl⟩
    · have e : (capB b : Int) = b := by unfold capB; rw [if_neg (by omega)]
      rw [e]; clear e
      have t1 : decide (97 ≤ (b : Int)) = true := by simp; omega
      have d2 : decide ((b : Int) ≤ 122) = false := by simp; omega
      go_enter Tryd.func65, Tryd.ntmps65
      go_wp2_with fail
      go_ret
      exact ⟨rfl, rfl⟩
  · have e : (capB b : Int) = b := by unfold capB; rw [if_neg (by omega)]
    rw [e]; clear e
    have d2 : decide (97 ≤ (b : Int)) = false := by simp; omega
    go_enter Tryd.func65, Tryd.ntmps65
    go_wp2_with fail
    go_ret
    exact ⟨rfl, rfl⟩

set_option maxHeartbeats 4000000 in
theorem Capitals_any (s : ByteArray) (w : World) (hs : s.size ≤ 140737488355328) : Calls Tryd.prog 42 #[.string s] w fun e w' => e = .returned (.string (capS s)) ∧ Below w.heap.size w w' := by
  have hcv := Lib.hid (fun W : World => run_bytes_of_string (P := Tryd.prog) W 9 76 5 s Tryd.underlying9 Tryd.underlying76 Tryd.underlying5)
  have hsz : s.data.toList.length = s.size := rfl
  have hcv1 := hcv.out w
  generalize hcapE : grownCap w s.size 0 5 = cap at hcv1
  have HBR := Lib.hid (BRow.new w.drew s cap)
  have hbl : Below w.heap.size w (w.drew.alloc (.cells (bytesRow s cap) 5 ((bytesRow s cap).size, (bytesRow s cap).size + 1))) := (((Below.refl _ _).drew).alloc (by simp) _)
  have HBL := Lib.hid hbl; clear hbl
  generalize w.drew.alloc (.cells (bytesRow s cap) 5 ((bytesRow s cap).size, (bytesRow s cap).size + 1)) = w0 at hcv1 HBR HBL
  rw [show w.drew.heap.size = w.heap.size from rfl] at HBR
  have HC := Lib.hid capital_any
  go_enter Tryd.func42, Tryd.ntmps42
  go_wp2_with fail
  go_loopw [4] (fun i wr => ∃ k : Nat, k ≤ s.data.toList.length ∧ i = .int .i64 k ∧ BRow wr w.heap.size ((s.data.toList.take k).map (mapB capB) ++ s.data.toList.drop k) ∧ Below w.heap.size w wr) (fun i _ => s.size - (intOf i).toNat)
  case atStart => exact ⟨0, by omega, rfl, by simpa using HBR.out, HBL.out⟩
  case round =>
    obtain ⟨k, hk, rfl, hrow, hbel⟩ := hrel
    have HB := Lib.hid hbel; clear hbel
    have HR := Lib.hid hrow; clear hrow
    by_cases hlt : k < s.data.toList.length
    · have hck := (HR.out.2 k (by rw [part_len _ _ k hk]; exact hlt)).1
      have hf1 := (HR.out.2 k (by rw [part_len _ _ k hk]; exact hlt)).2
      rw [part_at _ _ hlt] at hck
      have HPS := Lib.hid (part_set capB _ hlt)
      have hbb := byte_lt (s.data.toList.getD k 0)
      have hmb : mapB capB (s.data.toList.getD k 0) = UInt8.ofNat (capB (s.data.toList.getD k 0).toNat) := rfl
      have hcl : capB (s.data.toList.getD k 0).toNat < 256 := by unfold capB; split <;> omega
      have hks : k < s.size := by omega
      have hks' : (k : Int) < s.size := by omega
      have HMB := Lib.hid hmb; clear hmb
      have HCL := Lib.hid hcl; clear hcl
      generalize (s.data.toList.getD k 0) = z at *
      go_wp2_with fail
      refine (HC.out _ hbb _).mono ?_
      rintro e w1 ⟨rfl, rfl⟩
      go_wp2_with fail
      go_roundw
      case rel => exact ⟨k + 1, by omega, by go_num, by rw [← HPS.out]; exact HR.out.set (by rw [part_len _ _ k hk]; exact hlt) (by rw [HMB.out]; have := HCL.out; simp; omega), HB.out.setCell (Nat.le_refl _) _⟩
      case measure => simp [intOf]; omega
    · have hkl : k = s.data.toList.length := by omega
      have hks : k = s.size := by omega
      have hrow := HR.out
      rw [hkl, List.take_length, List.drop_length, List.append_nil] at hrow
      have htx := hrow.text cap
      rw [List.length_map, hsz] at htx
      have HTX := Lib.hid hrow; clear hrow
      clear hkl
      go_wp2_with fail
      go_ret
      exact ⟨rfl, HB.out⟩

set_option maxHeartbeats 4000000 in
theorem upper_any (s : ByteArray) (w : World) (hs : s.size ≤ 140737488355328) : Calls Tryd.prog 40 #[.string s] w fun e w' => e = .returned (.string (capS s)) ∧ Below w.heap.size w w' := by
  have hcv := Lib.hid (fun W : World => run_bytes_of_string (P := Tryd.prog) W 9 76 5 s Tryd.underlying9 Tryd.underlying76 Tryd.underlying5)
  have hsz : s.data.toList.length = s.size := rfl
  have hcv1 := hcv.out w
  generalize hcapE : grownCap w s.size 0 5 = cap at hcv1
  have HBR := Lib.hid (BRow.new w.drew s cap)
  have hbl : Below w.heap.size w (w.drew.alloc (.cells (bytesRow s cap) 5 ((bytesRow s cap).size, (bytesRow s cap).size + 1))) := (((Below.refl _ _).drew).alloc (by simp) _)
  have HBL := Lib.hid hbl; clear hbl
  generalize w.drew.alloc (.cells (bytesRow s cap) 5 ((bytesRow s cap).size, (bytesRow s cap).size + 1)) = w0 at hcv1 HBR HBL
  rw [show w.drew.heap.size = w.heap.size from rfl] at HBR
  go_enter Tryd.func40, Tryd.ntmps40
  go_wp2_with fail
  go_loopw [10] (fun i wr => ∃ k : Nat, k ≤ s.data.toList.length ∧ i = .int .i64 k ∧ BRow wr w.heap.size ((s.data.toList.take k).map (mapB capB) ++ s.data.toList.drop k) ∧ Below w.heap.size w wr) (fun i _ => s.size - (intOf i).toNat)
  case atStart => exact ⟨0, by omega, rfl, by simpa using HBR.out, HBL.out⟩
  case round =>
    obtain ⟨k, hk, rfl, hrow, hbel⟩ := hrel
    have HB := Lib.hid hbel; clear hbel
    have HR := Lib.hid hrow; clear hrow
    by_cases hlt : k < s.data.toList.length
    · have hck := (HR.out.2 k (by rw [part_len _ _ k hk]; exact hlt)).1
      have hf1 := (HR.out.2 k (by rw [part_len _ _ k hk]; exact hlt)).2
      rw [part_at _ _ hlt] at hck
      have HPS := Lib.hid (part_set capB _ hlt)
      have HPE := Lib.hid (part_same capB _ hlt)
      have hbb := byte_lt (s.data.toList.getD k 0)
      have HMB : Hid (mapB capB (s.data.toList.getD k 0) = UInt8.ofNat (capB (s.data.toList.getD k 0).toNat)) := Lib.hid rfl
      have hks : k < s.size := by omega
      have hks' : (k : Int) < s.size := by omega
      generalize (s.data.toList.getD k 0) = z at *
      by_cases h1 : 97 ≤ z.toNat
      · by_cases h2 : z.toNat ≤ 122
        · have HMC : Hid (capB z.toNat = z.toNat - 32) := Lib.hid (by unfold capB; rw [if_pos ⟨h1, h2⟩])
          have t1 : decide (97 ≤ (z.toNat : Int)) = true := by simp; omega
          have t2 : decide ((z.toNat : Int) ≤ 122) = true := by simp; omega
          have j0 : (97 : Int) ≤ (z.toNat : Int) := by omega
          have j1 : (z.toNat : Int) ≤ 122 := by omega
          go_wp2_with fail
          go_roundw
          case rel => exact ⟨k + 1, by omega, by go_num, by rw [← HPS.out]; exact HR.out.set (by rw [part_len _ _ k hk]; exact hlt) (by rw [HMB.out, HMC.out]; simp; omega), HB.out.setCell (Nat.le_refl _) _⟩
          case measure => simp [intOf]; omega
        · have t1 : decide (97 ≤ (z.toNat : Int)) = true := by simp; omega
          have d2 : decide ((z.toNat : Int) ≤ 122) = false := by simp; omega
          have HMC : Hid (capB z.toNat = z.toNat) := Lib.hid (by unfold capB; rw [if_neg (by omega)])
          go_wp2_with fail
          go_roundw
          case rel => exact ⟨k + 1, by omega, by go_num, by rw [← HPE.out (by rw [HMB.out, HMC.out]; simp)]; exact HR.out, HB.out⟩
          case measure => simp [intOf]; omega
      · have d2 : decide (97 ≤ (z.toNat : Int)) = false := by simp; omega
        have HMC : Hid (capB z.toNat = z.toNat) := Lib.hid (by unfold capB; rw [if_neg (by omega)])
        go_wp2_with fail
        go_roundw
        case rel => exact ⟨k + 1, by omega, by go_num, by rw [← HPE.out (by rw [HMB.out, HMC.out]; simp)]; exact HR.out, HB.out⟩
        case measure => simp [intOf]; omega
    · have hkl : k = s.data.toList.length := by omega
      have hks : k = s.size := by omega
      have hrow := HR.out
      rw [hkl, List.take_length, List.drop_length, List.append_nil] at hrow
      have htx := hrow.text cap
      rw [List.length_map, hsz] at htx
      have HTX := Lib.hid hrow; clear hrow
      clear hkl
      go_wp2_with fail
      go_ret
      exact ⟨rfl, HB.out⟩
end Go.Proofs.YthagfammfejenaaDoor
