/- Unpack of the program. -/
import Derived.Test.YtoldjpnkgdhpkaaTn
import Derived.Test.YtoldjpnkgdhpkaaEq
import Derived.Test.YtoldjpnkgdhpkaaMg
import Derived.Test.YtoldjpnkgdhpkaaKn
namespace Go.Proofs.Ytoldjpnkgdhpkaa
open Go.RowKit
set_option linter.unusedVariables false
set_option linter.unusedSimpArgs false

def upkL (bs : List Int) : List Int := (unpackL bs).getD []
def upkN (bs : List Int) : Int := if (unpackL bs).isSome then 0 else 11
theorem bytesI_ok {bs : List Int} (h : bytesI bs) : bytesOk bs := h
theorem upk_none {bs : List Int} (h : unpackGo [] 1 bs = none) : upkL bs = [] ∧ upkN bs = 11 := by simp [upkL, upkN, unpackL, h]
theorem upk_bad {bs out : List Int} (h : unpackGo [] 1 bs = some out) (hp : ¬ packL 1 (rangesL out) = bs) : upkL bs = [] ∧ upkN bs = 11 := by simp [upkL, upkN, unpackL, h, hp]
theorem upk_good {bs out : List Int} (h : unpackGo [] 1 bs = some out) (hp : packL 1 (rangesL out) = bs) : upkL bs = out ∧ upkN bs = 0 := by simp [upkL, upkN, unpackL, h, hp]
theorem upto_isS {acc : List Int} {next : Int} (h : Upto acc next) (hn : next ≤ 301) : IsS acc := ⟨fun x hx => by have := h.1 x hx; omega, h.2⟩

/-- What holds at the head of Unpack's loop. -/
structure UpI (w wr : World) (bs acc r : List Int) (nx : Int) (v : Value) (A : Option Addr) (c : Nat) : Prop where
  own : Own wr w.heap.size 3 .i64 v acc
  rd : Rd wr w.heap.size .u8 A r
  cap : r.length ≤ c
  max : c ≤ 9223372036854775807
  len : r.length ≤ 3000
  byt : bytesI r
  n1 : 1 ≤ nx
  n2 : nx ≤ 301
  upt : Upto acc nx
  eq : unpackGo acc nx r = unpackGo [] 1 bs
  bel : Below w.heap.size w wr

set_option maxHeartbeats 8000000 in
theorem unpack_any (A : Option Addr) (c : Nat) (bs : List Int) (w : World) (hr : Rd w w.heap.size .u8 A bs) (hl : bs.length ≤ 3000) (hok : bytesI bs) (hcap : bs.length ≤ c) (hmax : c ≤ 9223372036854775807) :
    Calls Try.prog 42 #[.slice A bs.length c] w (LRes w (upkL bs) (upkN bs)) := by
  have HR := Lib.hid hr; clear hr
  have HOK := Lib.hid hok; clear hok
  go_enter Try.func42, Try.ntmps42
  go_wp2_with fail
  go_loopw [4, 5, 6] (fun v n s wr => ∃ (acc r : List Int) (nx : Int) (A2 : Option Addr) (c2 : Nat), n = .int .i64 nx ∧ s = .slice A2 r.length c2 ∧ UpI w wr bs acc r nx v A2 c2) (fun _ _ s _ => lenV s)
  case atStart => exact ⟨[], bs, 1, A, c, rfl, rfl, ⟨Own.nil _ _ _ _, HR.out, hcap, hmax, hl, HOK.out, by omega, by omega, ⟨by simp, List.Pairwise.nil⟩, rfl, Below.refl _ _⟩⟩
  case round =>
    obtain ⟨acc, r, nx, A2, c2, rfl, rfl, hI⟩ := hrel
    have HI := Lib.hid hI; clear hI
    rcases Nat.eq_zero_or_pos r.length with h0 | h0
    · obtain rfl : r = [] := List.length_eq_zero_iff.1 h0
      have hS := upto_isS HI.out.upt HI.out.n2
      have hE : unpackGo [] 1 bs = some acc := by rw [← HI.out.eq, unpackGo_nil]
      obtain ⟨V, cv, rfl, _, _, _⟩ := HI.out.own.out
      have HK := Lib.hid (HI.out.own.lk' (by have := hS.length_le; omega) hS.is64)
      have hsz := HI.out.bel.size
      have HEE := Lib.hid hE; clear hE
      have HSS := Lib.hid hS; clear hS
      have hpl : (packL 1 (rangesL acc)).length ≤ 1000000 := by
        have := packL_len (rangesL acc) 1
        have := rangesL_len acc
        have := HSS.out.length_le
        omega
      go_wp2_with fail
      refine (pack_yes V cv acc _ HK.out ((IsS.iff acc).2 HSS.out)).mono ?_
      rintro e w3 ⟨pv, rfl, hpo, hpb⟩
      obtain ⟨PV, pc, rfl, _, _, hpr⟩ := hpo.out
      have HPR := Lib.hid hpr; clear hpr hpo
      have HPB := Lib.hid (HI.out.bel.trans (hpb.mono hsz))
      have HOW := Lib.hid (HI.out.own.below hpb (Nat.le_refl _)); clear hpb
      go_wp2_with fail
      refine (eqBytes_any PV A pc c (packL 1 (rangesL acc)) bs _ _ _ HPR.out (HR.out.below HPB.out) hpl (by omega)).mono ?_
      rintro e w4 ⟨rfl, hd4⟩
      have HD4 := Lib.hid hd4; clear hd4
      by_cases hq : packL 1 (rangesL acc) = bs
      · have d : decide (packL 1 (rangesL acc) = bs) = true := by simpa using hq
        have HG := Lib.hid (upk_good HEE.out hq)
        clear hq
        rw [d]
        go_wp2_with fail
        go_ret2
        rw [HG.out.1, HG.out.2]
        exact .ok rfl (HOW.out.dr HD4.out) (Dr.below HPB.out HD4.out)
      · have d : decide (packL 1 (rangesL acc) = bs) = false := by simpa using hq
        have HG := Lib.hid (upk_bad HEE.out hq)
        clear hq
        rw [d]
        go_wp2_with fail
        go_ret2
        rw [HG.out.1, HG.out.2]
        exact ⟨none, 0, rfl, Own.nil _ _ _ _, Dr.below HPB.out HD4.out⟩
    · have i0 : (0 : Int) < r.length := by omega
      go_wp2_with fail
      refine (takeNumber_any A2 c2 r _ _ HI.out.rd HI.out.len HI.out.byt HI.out.cap HI.out.max).mono ?_
      rintro e w1 ⟨hd1, hm1⟩
      rcases ht : takeL r with _ | ⟨g, r1⟩
      · rw [ht] at hm1
        obtain rfl := hm1
        have HD1 := Lib.hid hd1; clear hd1
        have HT := Lib.hid ht; clear ht
        go_wp2_with fail
        go_ret2
        have hn := unpackGo_none1 acc nx (bs := r) (by intro e; rw [e] at h0; simp at h0) HT.out
        rw [HI.out.eq] at hn
        rw [(upk_none hn).1, (upk_none hn).2]
        exact ⟨none, 0, rfl, Own.nil _ _ _ _, Dr.below HI.out.bel HD1.out⟩
      · rw [ht] at hm1
        obtain ⟨A3, c3, rfl, hr1, hcap1, hmax1⟩ := hm1
        have hg := takeL_ok ht (bytesI_ok HI.out.byt)
        have hlen1 := takeL_len ht
        have HD1 := Lib.hid hd1; clear hd1
        have HT := Lib.hid ht; clear ht
        have HR1 := Lib.hid hr1; clear hr1
        have hb1 : Hid (bytesI r1) := Lib.hid hg.2.2
        have g0 := hg.1
        have g1 := hg.2.1
        clear hg
        go_wp2_with fail
        refine (takeNumber_any A3 c3 r1 _ _ (HR1.out.dr HD1.out) (by have := HI.out.len; omega) hb1.out hcap1 hmax1).mono ?_
        rintro e w2 ⟨hd2, hm2⟩
        rcases ht2 : takeL r1 with _ | ⟨m, r2⟩
        · rw [ht2] at hm2
          obtain rfl := hm2
          have HD2 := Lib.hid (Dr.trans HD1.out hd2); clear hd2
          have HT2 := Lib.hid ht2; clear ht2
          go_wp2_with fail
          go_ret2
          have hn := unpackGo_none2 acc nx HT.out HT2.out
          rw [HI.out.eq] at hn
          rw [(upk_none hn).1, (upk_none hn).2]
          exact ⟨none, 0, rfl, Own.nil _ _ _ _, Dr.below HI.out.bel HD2.out⟩
        · rw [ht2] at hm2
          obtain ⟨A4, c4, rfl, hr2, hcap2, hmax2⟩ := hm2
          have hm := takeL_ok ht2 (bytesI_ok hb1.out)
          have hlen2 := takeL_len ht2
          have HD2 := Lib.hid (Dr.trans HD1.out hd2)
          have HR2 := Lib.hid (hr2.dr hd2); clear hr2
          have HU := Lib.hid (unpackGo_step acc nx HT.out ht2)
          clear hd2
          have HT2 := Lib.hid ht2; clear ht2
          have hb2 : Hid (bytesI r2) := Lib.hid hm.2.2
          have m0 := hm.1
          have m1 := hm.2.1
          have n1 := HI.out.n1
          have n2 := HI.out.n2
          clear hm
          by_cases hbig : 300 < nx + g + m
          · go_wp2_with fail
            go_ret2
            have hn := HU.out
            rw [if_pos (by omega), HI.out.eq] at hn
            rw [(upk_none hn).1, (upk_none hn).2]
            exact ⟨none, 0, rfl, Own.nil _ _ _ _, Dr.below HI.out.bel HD2.out⟩
          · have hacc := (upto_isS HI.out.upt n2).length_le
            go_wp2_with fail
            go_loopw [4, 42] (fun v i wq => ∃ k : Nat, k ≤ m.toNat + 1 ∧ i = .int .i64 k ∧ Own wq w.heap.size 3 .i64 v (acc ++ seg (nx + g) k) ∧ Below w.heap.size w wq ∧ Dr w2 w2 ∧ Rd wq w.heap.size .u8 A4 r2) (fun _ i _ => m.toNat + 1 - (intOf i).toNat)
            case atStart => exact ⟨0, by omega, rfl, (HI.out.own.dr HD2.out).of_eq (by simp [seg]), Dr.below HI.out.bel HD2.out, Dr.refl _, HR2.out.dr (Dr.refl _)⟩
            case round =>
              obtain ⟨k, hk, rfl, hown, hb, _, hrr⟩ := hrel
              have HO := Lib.hid hown; clear hown
              have HB := Lib.hid hb; clear hb
              have HRR := Lib.hid hrr; clear hrr
              by_cases hlt : k < m.toNat + 1
              · have j1 : (k : Int) < m + 1 := by omega
                have hls : (acc ++ seg (nx + g) k).length ≤ 1000000 := by rw [List.length_append, seg_len]; omega
                go_wp2_with (at_builtin; refine app_int rfl _ _ rfl w.heap.size _ _ (nx + g + (k : Int)) rfl (HO.out.alloc _) ⟨wr.heap.size, 0, none⟩ 1 rfl (new_cell _ _ _) hls (size_alloc HB.out.size _) ?_; intro v' w' hown' hb')
                go_roundw
                case rel => exact ⟨k + 1, by omega, by go_num, hown'.of_eq (by rw [seg_succ, List.append_assoc]), (HB.out.alloc HB.out.size _).trans (hb'.mono (Nat.le_refl _)), Dr.refl _, (HRR.out.alloc HB.out.size _).below hb'⟩
                case measure => simp [intOf]; omega
              · have j1 : ¬ (k : Int) < m + 1 := by omega
                obtain rfl : k = m.toNat + 1 := by omega
                have HN := Lib.hid (HI.out.upt.step n1 g0 m0)
                have HL := HI.out.len
                have HE := HU.out
                rw [if_neg (by omega), HI.out.eq] at HE
                have HEQ := Lib.hid HE; clear HE
                go_wp2_with fail
                go_roundw
                case rel => exact ⟨acc ++ seg (nx + g) (m.toNat + 1), r2, nx + (g + m + 1), A4, c4, rfl, rfl, ⟨HO.out, HRR.out, hcap2, hmax2, by omega, hb2.out, by omega, by omega, by rw [show nx + (g + m + 1) = nx + g + m + 1 by omega]; exact HN.out, by rw [show nx + (g + m + 1) = nx + g + m + 1 by omega]; exact HEQ.out.symm, HB.out⟩⟩
                case measure => simp only [lenV_slice]; omega
end Go.Proofs.Ytoldjpnkgdhpkaa
