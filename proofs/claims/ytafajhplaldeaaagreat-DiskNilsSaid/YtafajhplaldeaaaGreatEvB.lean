/- The small world and the great one: what it is that they agree. -/
import Derived.Test.YtafajhplaldeaaaGreatEvA
import Derived.CallsIn
import Derived.Laws.Sem
import Derived.Laws.World
import Derived.RangeFuncRecord
set_option linter.unusedVariables false
set_option linter.unusedSimpArgs false
namespace Go.Ev
open Go

structure Pl where
  blk : Nat
  base : Nat
  cap : Nat

abbrev Rho := Nat → Nat → Option Pl

def capOf (p : Pl) (o : Nat) (cap : Option Nat) (sz : Nat) : Nat := match cap with
  | some c => c
  | none => (p.cap - o) / sz

/-- where the room of a slice is known, the row has it -/
def room (p : Pl) (o : Nat) (cap : Option Nat) (sz : Nat) : Bool := match cap with
  | some c => Nat.ble (c * sz) (p.cap - o)
  | none => true

def fnOf (ρ : Rho) : Fn → Option Fn
  | .func f => some (.func f)
  | .yield b => (ρ b 0).map fun p => .yield p.blk
  | _ => none

section
variable (E : Nat → Value)

mutual
def conc (ρ : Rho) : VV → Option Value
  | .bool b => some (.bool b)
  | .int k n => some (.int k n)
  | .str n s => if n = s.length ∧ (∀ x ∈ s, x < 256) then some (.string (toBA s)) else none
  | .pnil => some (.pointer none)
  | .ptr b v o => (ρ b v).map fun p => .pointer (some ⟨p.blk, p.base + o, none⟩)
  | .snil => some (.slice none 0 0)
  | .sl b v o len cap sz => (ρ b v).bind fun p => if len ≤ capOf p o cap sz ∧ room p o cap sz = true then some (.slice (some ⟨p.blk, p.base + o, none⟩) len (capOf p o cap sz)) else none
  | .mnil => some (.map none)
  | .map b => (ρ b 0).map fun p => .map (some p.blk)
  | .fnil => some .nilFunc
  | .fn f first cap => (fnOf ρ f).bind fun f => (concs ρ first).bind fun a => (concs ρ cap).map fun b => .func f a.toArray b.toArray
  | .inil => some .nilIface
  | .iface t x => (conc ρ x).map fun x => .iface t x
  | .agg l => (concs ρ l).map fun l => .agg l.toArray
  | .tup l => (concs ρ l).map fun l => .tuple l.toArray
  | .ext k => some (E k)
def concs (ρ : Rho) : List VV → Option (List Value)
  | [] => some []
  | v :: l => (conc ρ v).bind fun a => (concs ρ l).map fun b => a :: b
end

def Rho.le (ρ ρ' : Rho) : Prop := ∀ b v p, ρ b v = some p → ρ' b v = some p

theorem Rho.le_refl (ρ : Rho) : ρ.le ρ := fun _ _ _ h => h
theorem Rho.le_trans {ρ ρ' ρ'' : Rho} (h : ρ.le ρ') (h' : ρ'.le ρ'') : ρ.le ρ'' := fun b v p x => h' b v p (h b v p x)

theorem fnOf_mono {ρ ρ' : Rho} (hl : ρ.le ρ') {f f' : Fn} (h : fnOf ρ f = some f') : fnOf ρ' f = some f' := by
  cases f <;> simp_all [fnOf]
  obtain ⟨p, hp, rfl⟩ := h
  exact ⟨p, hl _ _ _ hp, rfl⟩

mutual
theorem conc_mono {ρ ρ' : Rho} (hl : ρ.le ρ') : ∀ (v : VV) (x : Value), conc E ρ v = some x → conc E ρ' v = some x
  | .bool _, x, h | .int _ _, x, h | .str _ _, x, h | .pnil, x, h | .snil, x, h | .mnil, x, h | .fnil, x, h | .inil, x, h | .ext _, x, h => by
    simp only [conc] at h ⊢; exact h
  | .ptr b v o, x, h => by
    simp only [conc, Option.map_eq_some_iff] at h ⊢
    obtain ⟨p, hp, rfl⟩ := h
    exact ⟨p, hl _ _ _ hp, rfl⟩
  | .sl b v o len cap sz, x, h => by
    simp only [conc, Option.bind_eq_some_iff] at h ⊢
    obtain ⟨p, hp, h⟩ := h
    exact ⟨p, hl _ _ _ hp, h⟩
  | .map b, x, h => by
    simp only [conc, Option.map_eq_some_iff] at h ⊢
    obtain ⟨p, hp, rfl⟩ := h
    exact ⟨p, hl _ _ _ hp, rfl⟩
  | .fn f a b, x, h => by
    simp only [conc, Option.bind_eq_some_iff, Option.map_eq_some_iff] at h ⊢
    obtain ⟨f', hf, a', ha, b', hb, rfl⟩ := h
    exact ⟨f', fnOf_mono hl hf, a', concs_mono hl a a' ha, b', concs_mono hl b b' hb, rfl⟩
  | .iface t y, x, h => by
    simp only [conc, Option.map_eq_some_iff] at h ⊢
    obtain ⟨z, hz, rfl⟩ := h
    exact ⟨z, conc_mono hl y z hz, rfl⟩
  | .agg l, x, h => by
    simp only [conc, Option.map_eq_some_iff] at h ⊢
    obtain ⟨z, hz, rfl⟩ := h
    exact ⟨z, concs_mono hl l z hz, rfl⟩
  | .tup l, x, h => by
    simp only [conc, Option.map_eq_some_iff] at h ⊢
    obtain ⟨z, hz, rfl⟩ := h
    exact ⟨z, concs_mono hl l z hz, rfl⟩
theorem concs_mono {ρ ρ' : Rho} (hl : ρ.le ρ') : ∀ (l : List VV) (x : List Value), concs E ρ l = some x → concs E ρ' l = some x
  | [], x, h => by simp only [concs] at h ⊢; exact h
  | v :: l, x, h => by
    simp only [concs, Option.bind_eq_some_iff, Option.map_eq_some_iff] at h ⊢
    obtain ⟨a, ha, b, hb, rfl⟩ := h
    exact ⟨a, conc_mono hl v a ha, b, concs_mono hl l b hb, rfl⟩
end

/-- lists, element by element -/
theorem concs_length {ρ : Rho} : ∀ {l : List VV} {x : List Value}, concs E ρ l = some x → x.length = l.length
  | [], x, h => by simp only [concs, Option.some.injEq] at h; subst h; rfl
  | v :: l, x, h => by
    simp only [concs, Option.bind_eq_some_iff, Option.map_eq_some_iff] at h
    obtain ⟨a, ha, b, hb, rfl⟩ := h
    simp [concs_length hb]

theorem concs_get {ρ : Rho} : ∀ {l : List VV} {x : List Value}, concs E ρ l = some x → ∀ (i : Nat) v, l[i]? = some v → ∃ y, conc E ρ v = some y ∧ x[i]? = some y
  | [], x, h, i, v, hv => by simp at hv
  | u :: l, x, h, i, v, hv => by
    simp only [concs, Option.bind_eq_some_iff, Option.map_eq_some_iff] at h
    obtain ⟨a, ha, b, hb, rfl⟩ := h
    cases i with
    | zero => simp at hv; subst hv; exact ⟨a, ha, rfl⟩
    | succ i => simp at hv ⊢; exact concs_get hb i v hv

theorem concs_of {ρ : Rho} : ∀ (l : List VV) (x : List Value), x.length = l.length → (∀ (i : Nat) v, l[i]? = some v → ∃ y, conc E ρ v = some y ∧ x[i]? = some y) → concs E ρ l = some x
  | [], x, hn, _ => by cases x with | nil => rfl | cons => simp at hn
  | v :: l, [], hn, _ => by simp at hn
  | v :: l, y :: x, hn, h => by
    simp only [concs, Option.bind_eq_some_iff, Option.map_eq_some_iff]
    obtain ⟨a, ha, hx⟩ := h 0 v rfl
    simp at hx; subst hx
    exact ⟨y, ha, x, concs_of l x (by simpa using hn) (fun i u hu => by simpa using h (i + 1) u (by simpa using hu)), rfl⟩

theorem concs_some {ρ : Rho} : ∀ (l : List VV), (∀ (i : Nat) v, l[i]? = some v → ∃ y, conc E ρ v = some y) → ∃ x, concs E ρ l = some x
  | [], _ => ⟨[], rfl⟩
  | v :: l, h => by
    obtain ⟨a, ha⟩ := h 0 v rfl
    obtain ⟨b, hb⟩ := concs_some l (fun i u hu => h (i + 1) u (by simpa using hu))
    exact ⟨a :: b, by simp [concs, ha, hb]⟩

theorem concs_append {ρ : Rho} : ∀ {l m : List VV} {x y : List Value}, concs E ρ l = some x → concs E ρ m = some y → concs E ρ (l ++ m) = some (x ++ y)
  | [], m, x, y, h, h' => by simp only [concs, Option.some.injEq] at h; subst h; exact h'
  | v :: l, m, x, y, h, h' => by
    simp only [concs, Option.bind_eq_some_iff, Option.map_eq_some_iff] at h
    obtain ⟨a, ha, b, hb, rfl⟩ := h
    simp only [List.cons_append, concs, Option.bind_eq_some_iff, Option.map_eq_some_iff]
    exact ⟨a, ha, b ++ y, concs_append hb h', rfl⟩

/-! ### the program's own values -/
theorem toBA_of (s : ByteArray) : toBA (s.data.toList.map UInt8.toNat) = s := by
  obtain ⟨⟨l⟩⟩ := s
  simp [toBA, Function.comp_def]

theorem toBA_size (l : List Nat) : (toBA l).size = l.length := by simp [toBA, ByteArray.size]

theorem toNat_lt256 (s : ByteArray) : ∀ x ∈ s.data.toList.map UInt8.toNat, x < 256 := fun x hx => by
  obtain ⟨u, _, rfl⟩ := List.mem_map.1 hx
  exact u.toNat_lt

theorem mapM_concs {ρ : Rho} {f : Value → Option VV} (hf : ∀ v x, f v = some x → conc E ρ x = some v) : ∀ (l : List Value) (m : List VV), l.mapM f = some m → concs E ρ m = some l
  | [], m, h => by simp at h; subst h; rfl
  | v :: l, m, h => by
    simp only [List.mapM_cons, Option.pure_def, Option.bind_eq_bind, Option.bind_eq_some_iff, Option.some.injEq] at h
    obtain ⟨a, ha, b, hb, rfl⟩ := h
    simp [concs, hf v a ha, mapM_concs hf l b hb]

theorem abst_conc {ρ : Rho} : ∀ (n : Nat) (v : Value) (x : VV), abst n v = some x → conc E ρ x = some v
  | 0, v, x, h => by simp [abst] at h
  | n + 1, v, x, h => by
    have ih := abst_conc (ρ := ρ) n
    unfold abst at h
    split at h
    · cases h; rfl
    · cases h; rfl
    · rename_i s
      cases h
      simp only [conc]
      rw [if_pos ⟨by rw [List.length_map, Array.length_toList]; rfl, toNat_lt256 s⟩, toBA_of]
    · cases h; rfl
    · cases h; rfl
    · cases h; rfl
    · cases h; rfl
    · cases h; rfl
    · simp only [Option.map_eq_some_iff] at h
      obtain ⟨y, hy, rfl⟩ := h
      simp [conc, ih _ _ hy]
    · simp only [Option.map_eq_some_iff] at h
      obtain ⟨y, hy, rfl⟩ := h
      simp [conc, mapM_concs E ih _ _ hy]
    · simp only [Option.map_eq_some_iff] at h
      obtain ⟨y, hy, rfl⟩ := h
      simp [conc, mapM_concs E ih _ _ hy]
    · simp only [Option.bind_eq_some_iff, Option.map_eq_some_iff] at h
      obtain ⟨y, hy, z, hz, rfl⟩ := h
      simp [conc, fnOf, mapM_concs E ih _ _ hy, mapM_concs E ih _ _ hz]
    · cases h

/-! ### slots -/
def On (ρ : Rho) (t : T VV) (a : Act) (i : Nat) : Prop := conc E ρ (getOr t i) = some (a.tmps.getD i undef)

theorem On.mono {ρ ρ' : Rho} (hl : ρ.le ρ') {t : T VV} {a : Act} {i : Nat} (h : On E ρ t a i) : On E ρ' t a i := conc_mono E hl _ _ h

theorem getOr_set (t : T VV) (d i : Nat) (v : VV) : getOr (t.set d v) i = if d = i then v else getOr t i := by
  unfold getOr
  rw [T.get_set]
  by_cases h : d = i <;> simp [h]

theorem getOr_e (i : Nat) : getOr (T.e : T VV) i = undefV := by unfold getOr; rw [T.get_e]

theorem getD_put (a : Act) (d i : Nat) (v : Value) (hd : d < a.tmps.size) : (a.put (some d) v).tmps.getD i undef = if d = i then v else a.tmps.getD i undef := by
  simp only [Act.put, Array.getD_eq_getD_getElem?]
  by_cases h : d = i
  · subst h; simp [hd]
  · rw [Array.getElem?_setIfInBounds_ne h]; simp [h]

theorem On.put {ρ : Rho} {t : T VV} {a : Act} {i d : Nat} {v : VV} {x : Value} (hd : d < a.tmps.size) (hv : conc E ρ v = some x) (h : d = i ∨ On E ρ t a i) : On E ρ (t.set d v) (a.put (some d) x) i := by
  unfold On
  rw [getOr_set, getD_put _ _ _ _ hd]
  by_cases e : d = i
  · rw [if_pos e, if_pos e]; exact hv
  · rw [if_neg e, if_neg e]; exact h.resolve_left e

def Glob (ρ : Rho) : Prop := ∀ g, g < NG → ∃ c, ρ g 0 = some ⟨g, 0, c⟩

theorem Glob.mono {ρ ρ' : Rho} (hl : ρ.le ρ') (h : Glob ρ) : Glob ρ' := fun g hg => let ⟨c, hc⟩ := h g hg; ⟨c, hl _ _ _ hc⟩

theorem operK_conc {x : Operand} {k : K (T VV → VV)} (hk : operK x = .ok k) {ρ : Rho} {t : T VV} {a : Act} (hg : Glob ρ) (hs : ∀ i, x = .tmp i → On E ρ t a i) : conc E ρ (k.f t) = some (a.eval x) := by
  cases x with
  | tmp i => cases hk; exact hs i rfl
  | const v =>
    simp only [operK, R.of_ok] at hk
    obtain ⟨y, hy, hk⟩ := hk
    cases hk
    exact abst_conc E _ _ _ hy
  | global g =>
    simp only [operK, R.when_ok] at hk
    obtain ⟨hlt, hk⟩ := hk
    cases hk
    obtain ⟨c, hc⟩ := hg g (Nat.le_of_ble_eq_true hlt)
    simp [conc, hc, Act.eval]
  | func f => cases hk; simp [conc, concs, fnOf, Act.eval]

def Tmps (xs : List Operand) : List Nat := xs.filterMap fun | .tmp t => some t | _ => none

theorem opersK_conc : ∀ {l : List Operand} {k : K (T VV → List VV)} (_ : opersK l = .ok k) {ρ : Rho} {t : T VV} {a : Act} (_ : Glob ρ) (_ : ∀ i, .tmp i ∈ l → On E ρ t a i), concs E ρ (k.f t) = some (l.map a.eval)
  | [], k, hk, ρ, t, a, hg, hs => by cases hk; rfl
  | x :: l, k, hk, ρ, t, a, hg, hs => by
    simp only [opersK, R.bind_ok] at hk
    obtain ⟨kx, hx, kl, hl, hk⟩ := hk
    cases hk
    simp only [concs, List.map_cons]
    rw [operK_conc E hx hg (fun i hi => hs i (by subst hi; simp)), opersK_conc hl hg (fun i hi => hs i (by simp [hi]))]
    rfl

end
end Go.Ev
