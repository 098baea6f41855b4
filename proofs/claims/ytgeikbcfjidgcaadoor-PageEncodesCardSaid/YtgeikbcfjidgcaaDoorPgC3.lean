/- Convert of the program. -/
import Derived.Test.YtgeikbcfjidgcaaDoorPgC2
import Derived.Test.YtgeikbcfjidgcaaDoorPgA
namespace Go.Proofs.YtgeikbcfjidgcaaDoor
open Go.RowKit
set_option linter.unusedVariables false
set_option linter.unusedSimpArgs false

theorem chr_is {p b : Nat} (hp : p < 3) (hb : b < 256) : chrFrom p b 0 3 = chI p b := (chr_tab ⟨p, hp⟩ ⟨b, hb⟩).1
theorem chI_range {p b : Nat} (hp : p < 3) (hb : b < 256) {c : Int} (h : chI p b = some c) : 0 ≤ c ∧ c ≤ 1200 := by
  have h1 := (chr_tab ⟨p, hp⟩ ⟨b, hb⟩).2
  simp only at h1
  unfold chI at h
  cases hc : charN p b with
  | none => rw [hc] at h; cases h
  | some x =>
    rw [hc] at h h1
    simp only [Option.map_some, Option.some.injEq] at h
    simp only [Option.getD_some] at h1
    have : c = (x : Int) := h.symm
    omega
theorem byI_range {p : Nat} (hp : p < 3) {c x : Int} (h : byI p c = some x) : 0 ≤ x ∧ x < 256 := by
  unfold byI at h
  cases hc : bytN p c with
  | none => rw [hc] at h; cases h
  | some b =>
    rw [hc] at h
    simp only [Option.map_some, Option.some.injEq] at h
    have hx : x = (b : Int) := h.symm
    have : b < 256 := by
      unfold bytN at hc
      repeat' split at hc
      all_goals (first | (cases hc; omega) | (cases hc; done))
    omega
/-- The byte of a byte on another page. -/
def cvO (p q b : Nat) : Option Int := (chI p b).bind (byI q)
def cvV (p q y b : Nat) : Nat := match cvO p q b with | some x => x.toNat | none => y
def cvM (p q : Nat) (u : UInt8) : Bool := (cvO p q u.toNat).isNone
def cvC (p q : Nat) (l : List UInt8) : Nat := (l.filter (cvM p q)).length
theorem cvV_lt {p q y b : Nat} (hq : q < 3) (hy : y < 256) : cvV p q y b < 256 := by
  unfold cvV
  cases h : cvO p q b with
  | none => exact hy
  | some x =>
    unfold cvO at h
    obtain ⟨c, _, h2⟩ := Option.bind_eq_some_iff.1 h
    have := byI_range hq h2
    simp only; omega
theorem cvC_take (p q : Nat) (l : List UInt8) {k : Nat} (hk : k < l.length) : cvC p q (l.take (k + 1)) = cvC p q (l.take k) + (if cvM p q (l.getD k 0) then 1 else 0) := by
  rw [List.take_succ_eq_append_getElem hk]
  unfold cvC
  have e : l.getD k 0 = l[k] := by simp [List.getD, hk]
  rw [e, List.filter_append, List.length_append]
  cases h : cvM p q l[k] <;> simp [h]
theorem cvC_le (p q : Nat) (l : List UInt8) (k : Nat) : cvC p q (l.take k) ≤ l.length := Nat.le_trans (List.length_filter_le _ _) (by simp; omega)

def cvE (s : ByteArray) (a b : Int) : Int := askedN 2048 [s] 0 [a, b]
def cvT (s : ByteArray) (a b : Int) (y : Nat) : ByteArray := if cvE s a b = 0 then mapS (cvV a.toNat b.toNat y) s else ⟨#[]⟩
def cvK (s : ByteArray) (a b : Int) : Int := if cvE s a b = 0 then (cvC a.toNat b.toNat s.data.toList : Int) else 0
def CRes (w : World) (t : ByteArray) (k n : Int) (e : Ending) (w' : World) : Prop := e = .returned (.tuple #[.string t, .int .i64 k, .int .i64 n]) ∧ Below w.heap.size w w'
theorem cvE_cases (s : ByteArray) (a b : Int) : (wrongN a 0 [s] ≠ 0 ∧ cvE s a b = wrongN a 0 [s]) ∨ (wrongN a 0 [s] = 0 ∧ ¬ (0 ≤ b ∧ b < 3) ∧ cvE s a b = 1) ∨ (wrongN a 0 [s] = 0 ∧ 0 ≤ b ∧ b < 3 ∧ cvE s a b = 0) := by
  rw [← asked_wrong]
  unfold cvE askedN
  by_cases h1 : ([s].any fun s => decide ((2048 : Int) < (s.size : Int))) = true
  · rw [if_pos h1, if_pos h1]; exact .inl ⟨by decide, rfl⟩
  · rw [if_neg h1, if_neg h1]
    by_cases h2 : a < 0 ∨ 2 < a
    · have e1 : ([a].any fun p => decide (p < 0) || decide (2 < p)) = true := by simp; omega
      have e2 : ([a, b].any fun p => decide (p < 0) || decide (2 < p)) = true := by simp; omega
      rw [if_pos e1, if_pos e2]; exact .inl ⟨by decide, rfl⟩
    · have e1 : ([a].any fun p => decide (p < 0) || decide (2 < p)) = false := by simp; omega
      rw [e1]
      by_cases h3 : 0 ≤ b ∧ b < 3
      · have e2 : ([a, b].any fun p => decide (p < 0) || decide (2 < p)) = false := by simp; omega
        rw [e2]; exact .inr (.inr ⟨by simp, h3.1, h3.2, by simp⟩)
      · have e2 : ([a, b].any fun p => decide (p < 0) || decide (2 < p)) = true := by simp; omega
        rw [e2]; exact .inr (.inl ⟨by simp, h3, by simp⟩)

set_option maxHeartbeats 8000000 in
theorem Convert_any (s : ByteArray) (a b : Int) (y : Nat) (hy : y < 256) (w : World) (ht : Tabs w) (hsp : SpTab w) (hs : s.size ≤ maxLen) :
    Calls Tryd.prog 20 #[.string s, .int .i64 a, .int .i64 b, .int .u8 y] w (CRes w (cvT s a b y) (cvK s a b) (cvE s a b)) := by
  have HT := Lib.hid ht; clear ht
  have HSP := Lib.hid hsp; clear hsp
  have hcon := Lib.hid (wrong_any a 0 [s])
  simp only [List.length_singleton] at hcon
  rcases cvE_cases s a b with ⟨h1, h2⟩ | ⟨h1, h2, h3⟩ | ⟨h1, h2, h3, h4⟩
  · have e1 : cvT s a b y = ⟨#[]⟩ := by simp [cvT, h2, h1]
    have e2 : cvK s a b = 0 := by simp [cvK, h2, h1]
    rw [e1, e2, h2]
    generalize wrongN a 0 [s] = n at *
    have dn : (n != 0) = true := by simpa using h1
    clear e1 e2 h1 h2
    go_enter Tryd.func20, Tryd.ntmps20
    go_wp2_with fail
    refine (hcon.out ⟨w.heap.size, 0, none⟩ 1 _ (by simp) (by simpa using hs) (text_cell w s _ rfl)).mono ?_
    rintro e w1 ⟨rfl, rfl⟩
    go_wp2_with fail
    go_ret3
    exact ⟨rfl, (Below.refl _ _).alloc (Nat.le_refl _) _⟩
  · have e1 : cvT s a b y = ⟨#[]⟩ := by simp [cvT, h3]
    have e2 : cvK s a b = 0 := by simp [cvK, h3]
    rw [e1, e2, h3]
    rw [h1] at hcon
    have hpg : (decide (0 ≤ b) && decide (b < 3)) = false := by
      cases h : (decide (0 ≤ b) && decide (b < 3))
      · rfl
      · exact absurd (by simpa using h) h2
    have hP := Lib.hid (fun W => by have h := isPage_any b W; rw [hpg] at h; exact h)
    clear e1 e2 h1 h2 h3 hpg
    go_enter Tryd.func20, Tryd.ntmps20
    go_wp2_with fail
    refine (hcon.out ⟨w.heap.size, 0, none⟩ 1 _ (by simp) (by simpa using hs) (text_cell w s _ rfl)).mono ?_
    rintro e w1 ⟨rfl, rfl⟩
    go_wp2_with fail
    refine (hP.out _).mono ?_
    rintro e w1 ⟨rfl, rfl⟩
    go_wp2_with fail
    go_ret3
    exact ⟨rfl, (Below.refl _ _).alloc (Nat.le_refl _) _⟩
  · obtain ⟨hp0, hp3, _, hss⟩ := wrong_zero h1
    have hs2 : s.size ≤ 2048 := hss s (by simp)
    obtain ⟨p, rfl⟩ : ∃ p : Nat, a = p := ⟨a.toNat, by omega⟩
    obtain ⟨q, rfl⟩ : ∃ q : Nat, b = q := ⟨b.toNat, by omega⟩
    have hp : p < 3 := by omega
    have hq : q < 3 := by omega
    have e1 : cvT s p q y = mapS (cvV p q y) s := by simp [cvT, h4]
    have e2 : cvK s p q = (cvC p q s.data.toList : Int) := by simp [cvK, h4]
    rw [e1, e2, h4]
    rw [h1] at hcon
    have hpg : (decide ((0 : Int) ≤ q) && decide ((q : Int) < 3)) = true := by simp; omega
    have hP := Lib.hid (fun W => by have h := isPage_any q W; rw [hpg] at h; exact h)
    clear e1 e2 h1 h2 h3 h4 hpg hp0 hp3 hss
    have hcv := fun W : World => run_bytes_of_string (P := Tryd.prog) W 9 46 5 s Tryd.underlying9 Tryd.underlying46 Tryd.underlying5
    have hsz : s.data.toList.length = s.size := rfl
    have HCV := Lib.hid hcv; clear hcv
    have hb0 : Below w.heap.size w (w.alloc (.cells #[.string s] 9)) := (Below.refl _ _).alloc (Nat.le_refl _) _
    have HZ0 : Hid (w.heap.size ≤ (w.alloc (.cells #[.string s] 9)).heap.size) := Lib.hid (by simp)
    have HB0 := Lib.hid hb0; clear hb0
    go_enter Tryd.func20, Tryd.ntmps20
    go_wp2_with fail
    refine (hcon.out ⟨w.heap.size, 0, none⟩ 1 _ (by simp) (by simpa using hs) (text_cell w s _ rfl)).mono ?_
    rintro e w1 ⟨rfl, rfl⟩
    go_wp2_with fail
    refine (hP.out _).mono ?_
    rintro e w1 ⟨rfl, rfl⟩
    generalize w.alloc (.cells #[.string s] 9) = wb at *
    have hcv1 := HCV.out wb
    generalize hcapE : grownCap wb s.size 0 5 = cap at hcv1
    have HBR := Lib.hid (BRow.new wb.drew s cap)
    have hbl : Below wb.heap.size wb (wb.drew.alloc (.cells (bytesRow s cap) 5 ((bytesRow s cap).size, (bytesRow s cap).size + 1))) := (((Below.refl _ _).drew).alloc (by simp) _)
    have HBL := Lib.hid (HB0.out.trans (hbl.mono HZ0.out)); clear hbl
    generalize wb.drew.alloc (.cells (bytesRow s cap) 5 ((bytesRow s cap).size, (bytesRow s cap).size + 1)) = w0 at hcv1 HBR HBL
    rw [show wb.drew.heap.size = wb.heap.size from rfl] at HBR
    go_wp2_with fail
    go_loopw [13, 32] (fun mi i wr => ∃ k : Nat, k ≤ s.data.toList.length ∧ i = .int .i64 k ∧ mi = .int .i64 (cvC p q (s.data.toList.take k)) ∧ BRow wr wb.heap.size ((s.data.toList.take k).map (mapB (cvV p q y)) ++ s.data.toList.drop k) ∧ Below w.heap.size w wr) (fun _ i _ => s.size - (intOf i).toNat)
    case atStart => exact ⟨0, by omega, rfl, by simp [cvC], by simpa using HBR.out, HBL.out⟩
    case round =>
      obtain ⟨k, hk, rfl, rfl, hrow, hbel⟩ := hrel
      have HB := Lib.hid hbel; clear hbel
      have HR := Lib.hid hrow; clear hrow
      by_cases hlt : k < s.data.toList.length
      · have hlen : k < ((s.data.toList.take k).map (mapB (cvV p q y)) ++ s.data.toList.drop k).length := by rw [part_len _ _ k hk]; exact hlt
        have hck := (HR.out.2 k hlen).1
        rw [part_at _ _ hlt] at hck
        have HPS := Lib.hid (part_set (cvV p q y) _ hlt)
        have hbb := byte_lt (s.data.toList.getD k 0)
        have hmb : mapB (cvV p q y) (s.data.toList.getD k 0) = UInt8.ofNat (cvV p q y (s.data.toList.getD k 0).toNat) := rfl
        have hct := cvC_take p q s.data.toList hlt
        have hcl := cvC_le p q s.data.toList k
        have hks : k < s.size := by omega
        have hks' : (k : Int) < s.size := by omega
        have HMB := Lib.hid hmb; clear hmb
        generalize (s.data.toList.getD k 0) = z at *
        generalize cvC p q (s.data.toList.take k) = m at *
        have HCT := Lib.hid hct; clear hct
        have HSPr := Lib.hid (HSP.out.below HB.out HT.out.pos)
        have hch := character_any z.toNat p hbb hp wr HSPr.out
        rw [chr_is hp hbb] at hch
        have HCH := Lib.hid hch; clear hch
        cases hco : chI p z.toNat with
        | none =>
          rw [hco] at HCH
          have hv : cvV p q y z.toNat = y := by simp [cvV, cvO, hco]
          have hmi : cvM p q z = true := by simp [cvM, cvO, hco]
          rw [hv] at HMB
          rw [hmi] at HCT
          clear hv hmi hco
          go_wp2_with fail
          refine (HCH.out).mono ?_
          rintro e w1 ⟨rfl, hb1⟩
          simp only [Option.getD_none, Option.isSome_none]
          have hr1 := HR.out.below hb1 HR.out.1
          obtain ⟨hc1, hf1⟩ := hr1.2 k hlen
          rw [part_at _ _ hlt] at hc1
          have HR1 := Lib.hid hr1; clear hr1
          have HB1 := Lib.hid (HB.out.trans (hb1.mono HB.out.size)); clear hb1
          go_wp2_with fail
          go_roundw
          case rel => exact ⟨k + 1, by omega, by go_num, by rw [HCT.out]; go_num, by rw [← HPS.out]; exact HR1.out.set hlen (by rw [HMB.out]; simp; omega), HB1.out.setCell HZ0.out _⟩
          case measure => simp [intOf]; omega
        | some c =>
          rw [hco] at HCH
          have hcr := chI_range hp hbb hco
          have hby : Hid (∀ W, SpTab W → Calls Tryd.prog 46 #[.int .i32 c, .int .i64 q] W (OptR .u8 (byI q c) W)) := Lib.hid fun W h => by
            have h2 := byteOf_any c q (by omega) hq W h
            rwa [byt_eq q hq c] at h2
          cases hbo : byI q c with
          | none =>
            rw [hbo] at hby
            have hv : cvV p q y z.toNat = y := by simp [cvV, cvO, hco, hbo]
            have hmi : cvM p q z = true := by simp [cvM, cvO, hco, hbo]
            rw [hv] at HMB
            rw [hmi] at HCT
            clear hv hmi hco hbo
            go_wp2_with fail
            refine (HCH.out).mono ?_
            rintro e w1 ⟨rfl, hb1⟩
            simp only [Option.getD_some, Option.isSome_some]
            have HSP1 := Lib.hid (HSPr.out.below hb1 (Nat.le_trans HT.out.pos HB.out.size))
            have HR1 := Lib.hid (HR.out.below hb1 HR.out.1)
            have HB1 := Lib.hid (HB.out.trans (hb1.mono HB.out.size)); clear hb1
            go_wp2_with fail
            refine (hby.out _ HSP1.out).mono ?_
            rintro e w2 ⟨rfl, hb2⟩
            simp only [Option.getD_none, Option.isSome_none]
            have hr2 := HR1.out.below hb2 HR1.out.1
            obtain ⟨hc2, hf2⟩ := hr2.2 k hlen
            rw [part_at _ _ hlt] at hc2
            have hset := hr2.set (z := 0) (v := 0) hlen rfl
            have HSET := Lib.hid hset; clear hset hr2
            have HB2 := Lib.hid (HB1.out.trans (hb2.mono HB1.out.size)); clear hb2
            have hset2 : (((s.data.toList.take k).map (mapB (cvV p q y)) ++ s.data.toList.drop k).set k 0).set k (mapB (cvV p q y) z) = ((s.data.toList.take k).map (mapB (cvV p q y)) ++ s.data.toList.drop k).set k (mapB (cvV p q y) z) := by simp
            have HS2 := Lib.hid hset2; clear hset2
            obtain ⟨hc3, hf3⟩ := HSET.out.2 k (by rw [List.length_set]; exact hlen)
            have hc3' : (w2.setCell ⟨wb.heap.size, k, none⟩ (.int .u8 0)).cell? ⟨wb.heap.size, k, none⟩ = some (.int .u8 0) := World.cell?_setCell_same _ _ _ hc2
            clear hc3
            go_wp2_with fail
            go_roundw
            case rel => exact ⟨k + 1, by omega, by go_num, by rw [HCT.out]; go_num, by rw [← HPS.out, ← HS2.out]; exact HSET.out.set (by rw [List.length_set]; exact hlen) (by rw [HMB.out]; simp; omega), (HB2.out.setCell HZ0.out _).setCell HZ0.out _⟩
            case measure => simp [intOf]; omega
          | some x =>
            rw [hbo] at hby
            have hxr := byI_range hq hbo
            have hv : cvV p q y z.toNat = x.toNat := by simp [cvV, cvO, hco, hbo]
            have hmi : cvM p q z = false := by simp [cvM, cvO, hco, hbo]
            rw [hv] at HMB
            rw [hmi] at HCT
            clear hv hmi hco hbo
            go_wp2_with fail
            refine (HCH.out).mono ?_
            rintro e w1 ⟨rfl, hb1⟩
            simp only [Option.getD_some, Option.isSome_some]
            have HSP1 := Lib.hid (HSPr.out.below hb1 (Nat.le_trans HT.out.pos HB.out.size))
            have HR1 := Lib.hid (HR.out.below hb1 HR.out.1)
            have HB1 := Lib.hid (HB.out.trans (hb1.mono HB.out.size)); clear hb1
            go_wp2_with fail
            refine (hby.out _ HSP1.out).mono ?_
            rintro e w2 ⟨rfl, hb2⟩
            simp only [Option.getD_some, Option.isSome_some]
            have hr2 := HR1.out.below hb2 HR1.out.1
            obtain ⟨hc2, hf2⟩ := hr2.2 k hlen
            rw [part_at _ _ hlt] at hc2
            have HR2 := Lib.hid hr2; clear hr2
            have HB2 := Lib.hid (HB1.out.trans (hb2.mono HB1.out.size)); clear hb2
            go_wp2_with fail
            go_roundw
            case rel => exact ⟨k + 1, by omega, by go_num, by rw [HCT.out]; rfl, by rw [← HPS.out]; exact HR2.out.set hlen (by rw [HMB.out]; simp; omega), HB2.out.setCell HZ0.out _⟩
            case measure => simp [intOf]; omega
      · have hkl : k = s.data.toList.length := by omega
        have hks : k = s.size := by omega
        have hrow := HR.out
        rw [hkl, List.take_length, List.drop_length, List.append_nil] at hrow
        have htx := hrow.text cap
        rw [List.length_map, hsz] at htx
        have HTX := Lib.hid hrow; clear hrow
        rw [hkl, List.take_length]
        clear hkl
        go_wp2_with fail
        go_ret3
        exact ⟨rfl, HB.out⟩
end Go.Proofs.YtgeikbcfjidgcaaDoor
