/- Encode of the program. -/
import Derived.Test.YtgeikbcfjidgcaaDoorPgEs
import Derived.Test.YtgeikbcfjidgcaaDoorShelfV
import Derived.Shelf.Strings.FieldsFuncAny
namespace Go.Proofs.YtgeikbcfjidgcaaDoor
open Go.RowKit Go.Shelf
set_option linter.unusedVariables false
set_option linter.unusedSimpArgs false

theorem valid_k (s : ByteArray) (w : World) (hs : s.size ≤ 9223372036854775807) (hT : Lib.Utf8Tabs 1 2 w) :
    Calls Tryd.prog 45 #[.string s] w fun e w' => e = .returned (.bool (Lib.validD s.data.toList)) ∧ Below w.heap.size w w' := Any.utf8_ValidString Tryd.lays196 s w hs hT
theorem byt_is {p : Nat} (hp : p < 3) (r : Int) : bytFrom p r 0 3 = byI p r := byt_eq p hp r
theorem conv_own {w : World} {base : Nat} {v : Value} {zs : List Int} (h : Own w base 5 .u8 v zs) : (convert 46 9 v).run Tryd.prog w = .ok (.string (strOfNums zs)) w := by
  obtain ⟨A, c, rfl, _, _, hr⟩ := h.out
  exact conv_bytes hr c
theorem len_own {w : World} {base : Nat} {v : Value} {zs : List Int} (h : Own w base 5 .u8 v zs) : ∃ A c, v = .slice A zs.length c := by
  obtain ⟨A, c, rfl, _, _, hr⟩ := h.out
  exact ⟨A, c, rfl⟩

theorem iter_alloc {w : World} {g pos : Nat} {s : ByteArray} (h : w.heap[g]? = some (.stringIter s pos)) (o : Obj) : (w.alloc o).heap[g]? = some (.stringIter s pos) :=
  ((Below.of_alloc w o w.heap.size (Nat.le_refl _)).block g (Array.getElem?_eq_some_iff.1 h).1).trans h
theorem iter_below {w w' : World} {g pos : Nat} {s : ByteArray} (h : w.heap[g]? = some (.stringIter s pos)) (hb : Below w.heap.size w w') : w'.heap[g]? = some (.stringIter s pos) :=
  (hb.block g (Array.getElem?_eq_some_iff.1 h).1).trans h
theorem iter_app {w w' : World} {g pos base : Nat} {s : ByteArray} {e : TypeId} {k : IntKind} {v : Value} {zs : List Int} (h : w.heap[g]? = some (.stringIter s pos)) (ho : Own w base e k v zs) (hg : w.grownBy w' v.ownBlock) : w'.heap[g]? = some (.stringIter s pos) :=
  (hg.block g (Array.getElem?_eq_some_iff.1 h).1 (own_ne_iter ho h)).trans h
theorem iter_pos {w : World} {g pos : Nat} {s : ByteArray} (h : w.heap[g]? = some (.stringIter s pos)) : w.iterPos g = pos := by simp [World.iterPos, h]

set_option maxHeartbeats 4000000 in
set_option maxRecDepth 40000 in
theorem Encode_any (s : ByteArray) (p : Int) (w : World) (ht : Tabs w) (hsp : SpTab w) (hu : Lib.Utf8Tabs 1 2 w) (hs : s.size ≤ maxLen) :
    Calls Tryd.prog 18 #[.string s, .int .i64 p] w (SRes w (ecT s p) (ecE s p)) := by
  have HP5 : Hid (5 ≤ w.heap.size) := Lib.hid ht.pos; clear ht
  have HSP := Lib.hid hsp; clear hsp
  have HU := Lib.hid hu; clear hu
  unfold maxLen at hs
  by_cases hbig : 6144 < s.size
  · have hb' : (6144 : Int) < s.size := by omega
    have E := Lib.hid (ecE_1 (p := p) hbig)
    rw [E.out.1, E.out.2]
    go_enter Tryd.func18, Tryd.ntmps18
    go_wp2_with fail
    go_ret2
    exact ⟨rfl, Below.refl _ _⟩
  have hb' : ¬ (6144 : Int) < s.size := by omega
  by_cases hpg : ¬ (0 ≤ p ∧ p < 3)
  · have E := Lib.hid (ecE_2 (s := s) (p := p) (by omega) hpg)
    rw [E.out.1, E.out.2]
    have hP := isPage_any p w
    have hf : (decide (0 ≤ p) && decide (p < 3)) = false := by simp; omega
    rw [hf] at hP
    have HP := Lib.hid hP; clear hP hf hpg
    go_enter Tryd.func18, Tryd.ntmps18
    go_wp2_with fail
    refine (HP.out).mono ?_
    rintro e w1 ⟨rfl, rfl⟩
    go_wp2_with fail
    go_ret2
    exact ⟨rfl, Below.refl _ _⟩
  have hpg := Classical.not_not.1 hpg
  obtain ⟨q, rfl⟩ : ∃ q : Nat, p = q := ⟨p.toNat, by omega⟩
  have hq : q < 3 := by omega
  have hsz : s.size ≤ 6144 := by omega
  have hP := isPage_any q w
  have hf : (decide (0 ≤ (q : Int)) && decide ((q : Int) < 3)) = true := by simp; omega
  rw [hf] at hP
  have HP := Lib.hid hP; clear hP hf hpg hbig
  have hV := valid_k s w hs HU.out
  cases hv : Lib.validD s.data.toList
  · have E := Lib.hid (ecN_bad (q := q) hsz hq hv)
    rw [E.out.1, E.out.2]
    rw [hv] at hV
    have HV := Lib.hid hV; clear hV hv
    go_enter Tryd.func18, Tryd.ntmps18
    go_wp2_with fail
    refine (HP.out).mono ?_
    rintro e w1 ⟨rfl, rfl⟩
    go_wp2_with fail
    refine (HV.out).mono ?_
    rintro e w1 ⟨rfl, hb1⟩
    go_wp2_with fail
    go_ret2
    exact ⟨rfl, hb1⟩
  · rw [hv] at hV
    have HV := Lib.hid hV; clear hV
    have EF := Lib.hid (fun h => ecN_fit (q := q) hsz hq hv h)
    have EL := Lib.hid (fun h h2 => ecN_large (q := q) hsz hq hv h h2)
    have EO := Lib.hid (fun h h2 => ecN_ok (q := q) hsz hq hv h h2)
    have HSZ := Lib.hid hsz
    have HLEN := Lib.hid (rns_len s)
    clear hv
    go_enter Tryd.func18, Tryd.ntmps18
    go_wp2_with fail
    refine (HP.out).mono ?_
    rintro e w1 ⟨rfl, rfl⟩
    go_wp2_with fail
    refine (HV.out).mono ?_
    rintro e w1 ⟨rfl, hb1⟩
    have HB1 := Lib.hid hb1; clear hb1
    go_wp2_with fail
    have HB2 : Hid (Below w.heap.size w (w1.iter s 0)) := Lib.hid (HB1.out.alloc HB1.out.size _)
    have HI : Hid ((w1.iter s 0).heap[w1.heap.size]? = some (.stringIter s 0)) := Lib.hid (World.iter_heap w1 s 0)
    have HG : Hid (w.heap.size ≤ w1.heap.size) := Lib.hid HB1.out.size
    generalize w1.iter s 0 = w2 at *
    generalize w1.heap.size = g at *
    go_loopw [6] (fun o wr => ∃ (pos fuel : Nat) (done : List Int), wr.heap[g]? = some (.stringIter s pos) ∧ Own wr w.heap.size 5 .u8 o (encB q done) ∧ Below w.heap.size w wr ∧ done ++ rnsF s fuel pos = rns s ∧ encV q done = true ∧ s.size ≤ pos + fuel) (fun _ wr => s.size - wr.iterPos g)
    case atStart => exact ⟨0, s.size, [], HI.out, Own.nil _ _ _ _, HB2.out, rfl, rfl, by omega⟩
    case round =>
      obtain ⟨pos, fuel, done, hit, hown, hbel, hdone, hev, hfu⟩ := hrel
      obtain ⟨A, cp, rfl⟩ := len_own hown
      have HIT := Lib.hid hit
      have HO := Lib.hid hown
      have HB := Lib.hid hbel
      have HD := Lib.hid hdone
      have HE := Lib.hid hev
      by_cases hp : pos < s.size
      · have hnx : ∀ ty, (Instr.next (.pointer (some ⟨g, 0, none⟩)) true ty).run Tryd.prog wr = _ := fun ty => Lib.run_next_any_at wr g s pos ty hit hp
        obtain ⟨f, rfl⟩ : ∃ f, fuel = f + 1 := ⟨fuel - 1, by omega⟩
        have hwd := Lib.width_pos s pos
        have hrl := Lib.rune_le s pos
        rw [rnsF_step s f pos hp] at hdone
        have hno := fun h => encV_no q done (rnsF s f (pos + (Utf8.decode s pos).2)) ((Utf8.decode s pos).1 : Int) h
        rw [hdone] at hno
        have HNO := Lib.hid hno; clear hno
        have HD' : Hid ((done ++ [((Utf8.decode s pos).1 : Int)]) ++ rnsF s f (pos + (Utf8.decode s pos).2) = rns s) := Lib.hid (by rw [List.append_assoc]; exact hdone)
        have hev2 := encV_snoc q done ((Utf8.decode s pos).1 : Int)
        rw [hev] at hev2
        have HE2 := Lib.hid hev2; clear hev2
        have HS2 := Lib.hid (encB_snoc q done ((Utf8.decode s pos).1 : Int))
        have HO2 : Hid (Own (wr.iterAt g s (pos + (Utf8.decode s pos).2)) w.heap.size 5 .u8 (.slice A (encB q done).length cp) (encB q done)) := Lib.hid (own_iterAt hown hit _)
        have HIT2 := Lib.hid (Lib.iterAt_heap wr g s pos (pos + (Utf8.decode s pos).2) hit)
        have HB2' := Lib.hid (Lib.below_iterAt hbel (k := g) HG.out s (pos + (Utf8.decode s pos).2))
        have hlen : (encB q done).length ≤ 1000000 := by
          rw [encB_len]
          have h1 := congrArg List.length HD.out
          rw [List.length_append] at h1
          have := HLEN.out
          omega
        have HLE := Lib.hid hlen; clear hlen
        have HM := Lib.hid (iter_pos hit)
        clear hit hown hbel hdone hev HIT HO HB HD HE
        generalize (Utf8.decode s pos).1 = r at *
        generalize (Utf8.decode s pos).2 = d at *
        generalize wr.iterAt g s (pos + d) = w3 at *
        have HSP3 := Lib.hid (HSP.out.below HB2'.out HP5.out)
        have hbo := byteOf_any r q (by omega) hq w3 HSP3.out
        rw [byt_is hq] at hbo
        have HBO := Lib.hid hbo; clear hbo
        cases hco : byI q (r : Int) with
        | none =>
          rw [hco] at HBO HNO
          have E := Lib.hid (EF.out (HNO.out rfl))
          clear HE2 HS2 hco HNO HO2
          go_wp2_with fail
          refine (HBO.out).mono ?_
          rintro e w4 ⟨rfl, hb4⟩
          simp only [Option.getD_none, Option.isSome_none]
          have HB4 := Lib.hid (HB2'.out.trans (hb4.mono HB2'.out.size)); clear hb4
          go_wp2_with fail
          (try rw [Exit.noGoto_ret])
          go_ret2
          exact ⟨by rw [E.out.1, E.out.2]; rfl, HB4.out⟩
        | some x =>
          rw [hco] at HBO HE2 HS2
          clear HNO hco
          go_wp2_with fail
          refine (HBO.out).mono ?_
          rintro e w4 ⟨rfl, hb4⟩
          simp only [Option.getD_some, Option.isSome_some]
          have HO4 := Lib.hid (HO2.out.below hb4 (Nat.le_refl _))
          have HIT4 := Lib.hid (iter_below HIT2.out hb4)
          have HB4 := Lib.hid (HB2'.out.trans (hb4.mono HB2'.out.size)); clear hb4
          go_wp2_with (at_builtin; refine app_byte rfl _ _ rfl w.heap.size _ _ x rfl (HO4.out.alloc _) ⟨w4.heap.size, 0, none⟩ 1 rfl (new_cell _ _ _) HLE.out (size_alloc HB4.out.size _) ?_; intro v5 w5 ho5 hb5 hg5; have HO5 := Lib.hid ho5; have HB5 := Lib.hid ((HB4.out.alloc HB4.out.size _).trans hb5); have HIT5 := Lib.hid (iter_app (iter_alloc HIT4.out _) (HO4.out.alloc _) hg5); clear ho5 hb5 hg5)
          go_roundw
          case rel => exact ⟨pos + d, f, done ++ [(r : Int)], HIT5.out, HO5.out.of_eq (by rw [HS2.out]; rfl), HB5.out, HD'.out, by rw [HE2.out]; rfl, by omega⟩
          case measure => rw [iter_pos HIT5.out, HM.out]; omega
      · have hnx : ∀ ty, (Instr.next (.pointer (some ⟨g, 0, none⟩)) true ty).run Tryd.prog wr = _ := fun ty => Lib.run_next_end_at wr g s pos ty hit hp
        rw [rnsF_end _ _ _ hp, List.append_nil] at hdone
        subst hdone
        have hcv := conv_own hown
        rw [encB_len] at *
        by_cases hl : 2048 < (rns s).length
        · have E := Lib.hid (EL.out hev hl)
          have hl' : (2048 : Int) < ((rns s).length : Int) := by omega
          clear hit hown hbel hev HIT HO HD HE hcv hl
          go_wp2_with fail
          go_ret2
          exact ⟨by rw [E.out.1, E.out.2]; rfl, HB.out⟩
        · have E := Lib.hid (EO.out hev hl)
          have hl' : ¬ (2048 : Int) < ((rns s).length : Int) := by omega
          clear hit hown hbel hev HIT HO HD HE hl
          go_wp2_with fail
          go_ret2
          exact ⟨by rw [E.out.1, E.out.2]; rfl, HB.out⟩
end Go.Proofs.YtgeikbcfjidgcaaDoor
